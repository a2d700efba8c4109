/-
  A RUN THAT THE KERNEL RECKONS, XIII: a call whose arguments are rows that lie in memory that is there: what its body does in the smallest memory (the rows alone, only read) is what the call does in every one.
-/
import Derived.Test.YtbjgkhbhabdjgaaDoorG04
import Derived.Test.YtbjgkhbhabdjgaaDoorG03
import Derived.Laws.Externs
import Derived.Test.YtbjgkhbhabdjgaaDoorProg
namespace Go.KRun
open Go.RowKit

/-! ### values that point into some blocks alone -/
def oc1 (bs : List Nat) : Value → Bool
  | .pointer (some a) => bs.contains a.block
  | .slice (some a) _ _ => bs.contains a.block
  | .iface t _ => !(Nat.beq t dead)
  | _ => true
def oc2 (bs : List Nat) : Value → Bool
  | .agg cs => cs.toList.all (oc1 bs)
  | v => oc1 bs v
def oc (bs : List Nat) : Value → Bool
  | .tuple vs => vs.toList.all (oc2 bs)
  | v => oc2 bs v
theorem mv1_on {m m' : Mp} {bs : List Nat} (h : ∀ b ∈ bs, m b = m' b) {v : Value} (hv : oc1 bs v = true) : mv1 m v = mv1 m' v := by
  unfold mv1
  split
  · simp only [oc1, List.contains_iff_mem] at hv; simp [mvA, h _ hv]
  · simp only [oc1, List.contains_iff_mem] at hv; simp [mvA, h _ hv]
  · rfl
  · rfl
theorem mv2_on {m m' : Mp} {bs : List Nat} (h : ∀ b ∈ bs, m b = m' b) {v : Value} (hv : oc2 bs v = true) : mv2 m v = mv2 m' v := by
  unfold mv2
  split
  · rename_i cs
    simp only [oc2, List.all_eq_true] at hv
    congr 1
    exact Array.map_congr_left fun x hx => mv1_on h (hv x (by simpa using hx))
  · rename_i hna
    refine mv1_on h ?_
    unfold oc2 at hv
    split at hv
    · rename_i cs; exact absurd rfl (hna cs)
    · exact hv
theorem mv_on {m m' : Mp} {bs : List Nat} (h : ∀ b ∈ bs, m b = m' b) {v : Value} (hv : oc bs v = true) : mv m v = mv m' v := by
  unfold mv
  split
  · rename_i vs
    simp only [oc, List.all_eq_true] at hv
    congr 1
    exact Array.map_congr_left fun x hx => mv2_on h (hv x (by simpa using hx))
  · rename_i hna
    refine mv2_on h ?_
    unfold oc at hv
    split at hv
    · rename_i cs; exact absurd rfl (hna cs)
    · exact hv
theorem oc_ren {bs : List Nat} {f : Nat → Nat} {n : Nat} (hf : ∀ b ∈ bs, f b < n) {v : Value} (hv : oc bs v = true) : lt n (rn f v) = true := by
  have h1 : ∀ v, oc1 bs v = true → lt1 n (rn1 f v) = true := fun v h => by
    cases v with
    | pointer a =>
      cases a with
      | none => rfl
      | some a => simp only [oc1, List.contains_iff_mem] at h; exact blt_iff.2 (hf _ h)
    | slice a l c =>
      cases a with
      | none => rfl
      | some a => simp only [oc1, List.contains_iff_mem] at h; exact blt_iff.2 (hf _ h)
    | iface t u => simp only [oc1, Bool.not_eq_true'] at h; simp [rn1, lt1, h]
    | _ => rfl
  have h2 : ∀ v, oc2 bs v = true → lt2 n (rn2 f v) = true := fun v h => by
    cases v with
    | agg cs =>
      simp only [oc2, lt2, rn2, Array.toList_map, List.all_eq_true, List.mem_map] at *
      rintro _ ⟨y, hy, rfl⟩
      exact h1 y (h y hy)
    | pointer a =>
      cases a with
      | none => rfl
      | some a => exact h1 (.pointer (some a)) h
    | slice a l c =>
      cases a with
      | none => rfl
      | some a => exact h1 (.slice (some a) l c) h
    | iface t u => exact h1 (.iface t u) h
    | _ => rfl
  cases v with
  | tuple cs =>
    simp only [oc, lt, rn, Array.toList_map, List.all_eq_true, List.mem_map] at *
    rintro _ ⟨y, hy, rfl⟩
    exact h2 y (hv y hy)
  | agg cs => exact h2 (.agg cs) hv
  | pointer a =>
    cases a with
    | none => rfl
    | some a => exact h1 (.pointer (some a)) hv
  | slice a l c =>
    cases a with
    | none => rfl
    | some a => exact h1 (.slice (some a) l c) hv
  | iface t u => exact h1 (.iface t u) hv
  | _ => rfl
/-! ### the smallest memory -/
/-- rows that are only read, no address in them -/
def Hp.rows (h : Hp) : Prop := h.l.length = h.n ∧ ∀ b x, h.blk? b = some x → ro x.2 = true ∧ (∀ v ∈ x.1, still v = true) ∧ ab x.2 = false
/-- these rows are there: block i's cells are the first of block s i's -/
def Hp.fits (h0 : Hp) (s : Nat → Nat) (h : Hp) : Prop := ∀ i x, h0.blk? i = some x → tomb x.2 = false → ∃ y r, h.blk? (s i) = some y ∧ tomb y.2 = false ∧ rt y.2 = rt x.2 ∧ y.1 = x.1 ++ r
theorem Emb.small {m : Mp} {B : Nat} {h h0 : Hp} {w : World} {s : Nat → Nat} (E : Emb m B h w) (hr : h0.rows) (hf : h0.fits s h) : Emb (fun i => m (s i)) w.heap.size h0 w where
  len := hr.1
  lies := fun b x hb hx => by
    obtain ⟨y, r, h1, h2, h3, h4⟩ := hf b x hb hx
    obtain ⟨r', z, l0, l1, _⟩ := E.lies _ _ h1 h2
    have calm := (hr.2 b x hb).2.1
    have e : x.1.map (mv1 m) = x.1.map (mv1 fun i => m (s i)) := still_map calm
    rw [h4, List.map_append] at l0 l1
    refine ⟨r.map (mv1 m) ++ r', z, ?_, ?_, fun hro => ?_⟩
    · simp at l0 ⊢; omega
    · rw [← e, l1, List.append_assoc]
    · rw [(hr.2 b x hb).1] at hro; cases hro
  low := fun b x hb hro => by rw [(hr.2 b x hb).1] at hro; cases hro
  ros := fun b x hb hx _ => by
    obtain ⟨y, r, h1, h2, _, _⟩ := hf b x hb hx
    exact E.here h1 h2
  inj := fun b b' x x' hb _ hro => by rw [(hr.2 b x hb).1] at hro; cases hro
  wf := fun b x hb v hv => still_lt (Nat.lt_of_le_of_lt (Nat.zero_le _) (Hp.blk_lt hb)) ((hr.2 b x hb).2.1 v hv)
  base := Nat.le_refl _
  ice := fun k h1 h2 => by omega
  abs := fun b x hb hx => by rw [(hr.2 b x hb).2.2] at hx; cases hx
/-- behind such a call: the value in the caller's numbers; no block of the call's own is kept -/
theorem row_calls {T : Tab} {f : Nat} {F : Func} {c : Code} (hF : T.P.funcs[f]? = some F) (hc : F.body = some c) {h0 : Hp} (hr : h0.rows) {vals : List Value} (hvals : ∀ v ∈ vals, lt h0.n v = true) {v : Value} (hv : oc (List.range h0.n) v = true)
    (hrun : Runs T c (vals ++ List.replicate (F.ntmps - vals.length) undef, h0, []) fun e y => (e = none ∨ e = some none) ∧ resS T.P F y.1 y.2.1 = some v)
    {m : Mp} {B : Nat} {h : Hp} {w : World} (E : Emb m B h w) {s : Nat → Nat} (hs : ∀ i, i < h0.n → s i < h.n) (hf : h0.fits s h) :
    Calls T.P f ((vals.map (rn s)).map (mv m)).toArray w fun e w' => e = .returned (mv m (rn s v)) ∧ Came m B h w (rn s v) h m w' := by
  have E0 := E.small hr hf
  have ev : (vals.map (rn s)).map (mv m) = vals.map (mv fun i => m (s i)) := by
    rw [List.map_map]
    exact List.map_congr_left fun y _ => mv_rn m s y
  rw [ev]
  refine calls_of_wp hF hc ?_
  have R : Rel (fun i => m (s i)) w.heap.size (vals ++ List.replicate (F.ntmps - vals.length) undef, h0, []) { tmps := (vals.map (mv fun i => m (s i))).toArray ++ Array.replicate (F.ntmps - (vals.map (mv fun i => m (s i))).toArray.size) undef, defers := [] } w := by
    refine ⟨?_, rfl, E0, ?_⟩
    · simp [mv_undef]
    · intro y hy
      rcases List.mem_append.1 hy with hy | hy
      · exact hvals y hy
      · rw [List.eq_of_mem_replicate hy]; simp [undef, lt]
  refine hrun _ _ _ w R _ fun e y he a' w' hR => ?_
  obtain ⟨hex, hres⟩ := he
  obtain ⟨m1, k1, k2, k3, _⟩ := hR
  obtain ⟨r1, r2⟩ := resS_run k2.emb k2.wf hres
  rw [← k2.tmps] at r1
  have e1 : mv m1 v = mv m (rn s v) := by
    rw [mv_rn]
    exact mv_on (fun b hb => k1 b (by simpa using hb)) hv
  rw [e1] at r1
  have td : Tidy w w' := ⟨k3, fun k h1 h2 => k2.emb.ice k h1 h2⟩
  obtain ⟨E', hb⟩ := clean_emb E td
  have post : a'.defers = [] ∧ ∃ v', (results F a'.tmps).run T.P w' = .ok v' w' ∧ (Ending.returned v' = .returned (mv m (rn s v)) ∧ Came m B h w (rn s v) h m w') :=
    ⟨k2.dfr, _, r1, rfl, ⟨Agree.refl _ _, E', hb, Nat.le_refl _, oc_ren (fun b hb => hs b (by simpa using hb)) hv⟩⟩
  rcases hex with rfl | rfl <;> exact post
/-- the same, where one block of the call's own is kept: 'k' in the small memory, the next one in the caller's -/
theorem row_calls1 {T : Tab} {f : Nat} {F : Func} {c : Code} (hF : T.P.funcs[f]? = some F) (hc : F.body = some c) {h0 : Hp} (hr : h0.rows) {vals : List Value} (hvals : ∀ v ∈ vals, lt h0.n v = true) {v : Value} {k : Nat}
    {cs : List Value} {ty : TypeId} (hcs : ∀ u ∈ cs, lt1 0 u = true) (hty : ro ty = false)
    (hrun : RunsW T c (vals ++ List.replicate (F.ntmps - vals.length) undef, h0, []) fun e y => (e = none ∨ e = some none) ∧ resS T.P F y.1 y.2.1 = some v ∧ ∃ r, y.2.1.blk? k = some (cs ++ r, ty))
    (hv0 : oc [k] v = true)
    {m : Mp} {B : Nat} {h : Hp} {w : World} (E : Emb m B h w) {s : Nat → Nat} (hf : h0.fits s h) :
    Calls T.P f ((vals.map (rn s)).map (mv m)).toArray w fun e w' => ∃ m', e = .returned (mv m' (rn (fun _ => h.n) v)) ∧ Came m B h w (rn (fun _ => h.n) v) (h.push cs ty) m' w' := by
  have E0 := E.small hr hf
  have ev : (vals.map (rn s)).map (mv m) = vals.map (mv fun i => m (s i)) := by
    rw [List.map_map]
    exact List.map_congr_left fun y _ => mv_rn m s y
  rw [ev]
  refine calls_of_wp hF hc ?_
  have R : Rel (fun i => m (s i)) w.heap.size (vals ++ List.replicate (F.ntmps - vals.length) undef, h0, []) { tmps := (vals.map (mv fun i => m (s i))).toArray ++ Array.replicate (F.ntmps - (vals.map (mv fun i => m (s i))).toArray.size) undef, defers := [] } w := by
    refine ⟨?_, rfl, E0, ?_⟩
    · simp [mv_undef]
    · intro y hy
      rcases List.mem_append.1 hy with hy | hy
      · exact hvals y hy
      · rw [List.eq_of_mem_replicate hy]; simp [undef, lt]
  refine hrun _ _ _ w R _ fun e y he m1 a' w' k2 k3 => ?_
  obtain ⟨hex, hres, r, hblk⟩ := he
  obtain ⟨r1, r2⟩ := resS_run k2.emb k2.wf hres
  rw [← k2.tmps] at r1
  have td : Tidy w w' := ⟨k3, fun k h1 h2 => k2.emb.ice k h1 h2⟩
  obtain ⟨E', hb⟩ := clean_emb E td
  have hlow : w.heap.size ≤ (m1 k).1 := k2.emb.low k _ hblk hty
  have hlie : lie w' (m1 k) (cs.map (mv1 m)) ty := by
    obtain ⟨r', z, l0, l1, l2⟩ := k2.emb.lies k _ hblk (tomb_ro hty)
    have e : cs.map (mv1 m1) = cs.map (mv1 m) := map_still hcs
    simp only [List.map_append] at l0 l1
    refine ⟨r.map (mv1 m1) ++ r', z, ?_, ?_, l2⟩
    · simp at l0 ⊢; omega
    · rw [← e, l1, List.append_assoc]
  have Ea := E'.adopt cs ty hty (fun u hu => lt1_mono (Nat.zero_le _) (hcs u hu)) hlie (Nat.le_trans E.base hlow) (fun b x hbx hx heq => by
    have := E.here hbx (tomb_ro hx)
    omega)
  have e1 : mv m1 v = mv (upd m h.n (m1 k)) (rn (fun _ => h.n) v) := by
    rw [mv_rn]
    refine mv_on (fun b hb => ?_) hv0
    rw [List.mem_singleton.1 hb]
    simp [upd]
  rw [e1] at r1
  have post : a'.defers = [] ∧ ∃ v', (results F a'.tmps).run T.P w' = .ok v' w' ∧ ∃ m', Ending.returned v' = .returned (mv m' (rn (fun _ => h.n) v)) ∧ Came m B h w (rn (fun _ => h.n) v) (h.push cs ty) m' w' :=
    ⟨k2.dfr, _, r1, upd m h.n (m1 k), rfl, ⟨upd_agree _ _ _, Ea, hb, Nat.le_succ _, oc_ren (bs := [k]) (fun b hb => by show h.n < h.n + 1; omega) hv0⟩⟩
  rcases hex with rfl | rfl <;> exact post
end Go.KRun

/-
  A RUN THAT THE KERNEL RECKONS, VIII: the library's two functions without a body, math/bits.Add64 and Sub64: what they answer.
-/
namespace Go.KRun
open Go.RowKit

def addV : List Value → Option (Value × Log)
  | [.int .u64 x, .int .u64 y, .int .u64 c] =>
    some (.tuple #[.int .u64 ((x + y + c) % 18446744073709551616), .int .u64 ((x + y + c) / 18446744073709551616)], [(decide (0 ≤ x ∧ 0 ≤ y ∧ 0 ≤ c ∧ c ≤ 1), true)])
  | _ => none
def subV : List Value → Option (Value × Log)
  | [.int .u64 x, .int .u64 y, .int .u64 c] =>
    some (.tuple #[.int .u64 ((x + 18446744073709551616 - y - c) % 18446744073709551616), .int .u64 (if x < y + c then 1 else 0)], [(decide (0 ≤ x ∧ 0 ≤ y ∧ y < 18446744073709551616 ∧ 0 ≤ c ∧ c ≤ 1), true)])
  | _ => none
/-- for a closed run: the tests are reckoned on the spot -/
def closeV : Option (Value × Log) → Option (Value × Log)
  | some (v, lg) => if (lg.all fun p => p.1 == p.2) = true then some (v, []) else none
  | none => none
theorem closeV_ok {r : Option (Value × Log)} {v : Value} {lg : Log} (h : closeV r = some (v, lg)) : ∃ lg', r = some (v, lg') ∧ okLog lg' := by
  unfold closeV at h
  split at h
  · rename_i u lg'
    split at h
    · rename_i hall
      cases h
      exact ⟨lg', rfl, fun x hx => by simpa using List.all_eq_true.1 hall x hx⟩
    · cases h
  · cases h

theorem addV_run {P : Program} {f : Nat} {F : Func} (hf : P.funcs[f]? = some F) (hn : (F.name == "runtime.NumGoroutine") = false) (hb : F.body.isNone = true) (hx : Extern.findNext F = none) (he : Extern.find F = some add64Entry)
    {vals : List Value} {v : Value} {lg : Log} (h : addV vals = some (v, lg)) (hl : okLog lg) (w : World) : (callFunc f vals.toArray).run P w = .ok (.value v) w := by
  unfold addV at h
  split at h
  · rename_i x y c
    cases h
    have := hl _ (List.mem_singleton.2 rfl)
    simp only [decide_eq_true_eq] at this
    rw [run_callFunc_extern hf hn hb hx he, run_add64 x y c this.1 this.2.1 this.2.2.1 this.2.2.2]
    rfl
  · cases h

theorem sub64_run {P : Program} {e : Array Value → Sem Value} (he : (Extern.MathBitsCarry.rows[1]?).map Prod.snd = some e) (x y c : Int) (hx : 0 ≤ x) (hy : 0 ≤ y) (hy' : y < 18446744073709551616) (hc0 : 0 ≤ c) (hc : c ≤ 1) (w : World) :
    (e #[.int .u64 x, .int .u64 y, .int .u64 c]).run P w = .ok (.tuple #[.int .u64 ((x + 18446744073709551616 - y - c) % 18446744073709551616), .int .u64 (if x < y + c then 1 else 0)]) w := by
  simp only [Extern.MathBitsCarry.rows, List.getElem?_cons_succ, List.getElem?_cons_zero, Option.map_some, Option.some.injEq] at he
  subst he
  have key : ∀ k : Nat, k ≤ 1 → (Extern.MathBitsCarry.three "Sub64" #[.int .u64 x, .int .u64 y, .int .u64 (k : Int)]).run P w = .ok (x.toNat, y.toNat, k) w := by
    intro k hk
    have : k = 0 ∨ k = 1 := by omega
    rcases this with rfl | rfl <;> rfl
  obtain ⟨k, rfl⟩ := Int.eq_ofNat_of_zero_le hc0
  rw [Sem.run_bind, key k (by omega)]
  simp only [Result.andThen_ok, Sem.run_pure]
  obtain ⟨X, rfl⟩ := Int.eq_ofNat_of_zero_le hx
  obtain ⟨Y, rfl⟩ := Int.eq_ofNat_of_zero_le hy
  have e1 : Int.ofNat (((X + Extern.MathBitsCarry.m64 - Y - k) % Extern.MathBitsCarry.m64)) = ((X : Int) + 18446744073709551616 - Y - k) % 18446744073709551616 := by
    simp only [Extern.MathBitsCarry.m64, Int.ofNat_eq_natCast]
    omega
  have e2 : Int.ofNat (if X < Y + k then 1 else 0) = (if (X : Int) < Y + k then 1 else 0) := by
    by_cases h : X < Y + k
    · rw [if_pos h, if_pos (by omega)]; rfl
    · rw [if_neg h, if_neg (by omega)]; rfl
  simp only [Extern.MathBitsCarry.pair, Int.toNat_natCast, e1, e2]

theorem subV_run {P : Program} {f : Nat} {F : Func} {e : Array Value → Sem Value} (hf : P.funcs[f]? = some F) (hn : (F.name == "runtime.NumGoroutine") = false) (hb : F.body.isNone = true) (hx : Extern.findNext F = none) (he : Extern.find F = some e)
    (he' : (Extern.MathBitsCarry.rows[1]?).map Prod.snd = some e) {vals : List Value} {v : Value} {lg : Log} (h : subV vals = some (v, lg)) (hl : okLog lg) (w : World) : (callFunc f vals.toArray).run P w = .ok (.value v) w := by
  unfold subV at h
  split at h
  · rename_i x y c
    cases h
    have := hl _ (List.mem_singleton.2 rfl)
    simp only [decide_eq_true_eq] at this
    rw [run_callFunc_extern hf hn hb hx he, sub64_run he' x y c this.1 this.2.1 this.2.2.1 this.2.2.2.1 this.2.2.2.2]
    rfl
  · cases h
end Go.KRun

/-
  The seat's program as the reckoner's table: its functions with bodies, what Add64 and Sub64 answer; and that the table is so.
-/
namespace Go.Proofs.YtbjgkhbhabdjgaaDoor
open Go.KRun

theorem names : (Tryd.prog.funcs.toList.all fun F => !(F.name == "runtime.NumGoroutine")) = true := by kernel_rfl
theorem fns_ok (f : Nat) (F : Func) (h : Tryd.prog.funcs[f]? = some F) : Tryd.prog.funcs[f]? = some F ∧ (F.name == "runtime.NumGoroutine") = false :=
  ⟨h, by simpa using List.all_eq_true.1 names F (by simpa using Array.mem_of_getElem? h)⟩

def extY : Nat → List Value → Option (Value × Log) := fun _ _ => none
def extC : Nat → List Value → Option (Value × Log) := fun _ _ => none
theorem extY_ok (f : Nat) (vals : List Value) (v : Value) (lg : Log) (h : extY f vals = some (v, lg)) (_hl : okLog lg) (w : World) : (callFunc f vals.toArray).run Tryd.prog w = .ok (.value v) w := by cases h
theorem extC_ok (f : Nat) (vals : List Value) (v : Value) (lg : Log) (h : extC f vals = some (v, lg)) (_ : okLog lg) (w : World) : (callFunc f vals.toArray).run Tryd.prog w = .ok (.value v) w := by cases h
/-- what is known of calls -/
abbrev Con := Nat → List Value → List Dec → Option (Value × List Dec × Log)
structure ConOk (con : Con) : Prop where
  fn : ∀ f vals s v s' lg, con f vals s = some (v, s', lg) → ∃ F, Tryd.prog.funcs[f]? = some F ∧ F.body.isSome = true
  calls : ∀ f vals s v s' lg, con f vals s = some (v, s', lg) → okLog lg → ∀ w, Calls Tryd.prog f vals.toArray w fun e w' => e = .returned v ∧ Tidy w w'
def conN : Con := fun _ _ _ => none
theorem conN_ok : ConOk conN where
  fn := fun _ _ _ _ _ _ h => by simp [conN] at h
  calls := fun _ _ _ _ _ _ h => by simp [conN] at h

/-- the table of a program: 'sym': numbers may be letters -/
def tabOf (P : Program) (ext : Nat → List Value → Option (Value × Log)) (con : Con) (sym : Bool) : Tab := { P := P, fn := fun f => P.funcs[f]?, ext := ext, con := con, sym := sym }
theorem mixed : Tryd.prog.follows .mixedOrders = true := by kernel_rfl
theorem tabY_ok {con : Con} (h : ConOk con) : TabOk (tabOf Tryd.prog extY con true) where
  mixed := mixed
  ext := extY_ok
  con := fun f vals s v s' lg hc hl => ⟨by obtain ⟨F, h1, h2⟩ := h.fn f vals s v s' lg hc; exact ⟨F, (fns_ok f F h1).1, (fns_ok f F h1).2, h2⟩, h.calls f vals s v s' lg hc hl⟩
  fn := fns_ok
  hc := fun _ _ _ _ _ _ _ _ h => by cases h
theorem tabC_ok {con : Con} (h : ConOk con) : TabOk (tabOf Tryd.prog extC con false) where
  mixed := mixed
  ext := extC_ok
  con := fun f vals s v s' lg hc hl => ⟨by obtain ⟨F, h1, h2⟩ := h.fn f vals s v s' lg hc; exact ⟨F, (fns_ok f F h1).1, (fns_ok f F h1).2, h2⟩, h.calls f vals s v s' lg hc hl⟩
  fn := fns_ok
  hc := fun _ _ _ _ _ _ _ _ h => by cases h
abbrev Ans := List Value → List Dec → Option (Value × List Dec × Log)
def AnsOk (f : Nat) (g : Ans) : Prop := ∀ vals s v s' lg, g vals s = some (v, s', lg) → okLog lg → ∀ w, Calls Tryd.prog f vals.toArray w fun e w' => e = .returned v ∧ Tidy w w'
def alt (f : Nat) (g : Ans) (rest : Con) : Con := fun f' vals s => if f' = f then g vals s else rest f' vals s
theorem alt_ok {f : Nat} {g : Ans} {rest : Con} {F : Func} (hf : Tryd.prog.funcs[f]? = some F) (hb : F.body.isSome = true) (hg : AnsOk f g) (hr : ConOk rest) : ConOk (alt f g rest) where
  fn := fun f' vals s v s' lg h => by
    unfold alt at h
    split at h
    · rename_i he; subst he; exact ⟨F, hf, hb⟩
    · exact hr.fn _ _ _ _ _ _ h
  calls := fun f' vals s v s' lg h hl w => by
    unfold alt at h
    split at h
    · rename_i he; subst he; exact hg _ _ _ _ _ h hl w
    · exact hr.calls _ _ _ _ _ _ h hl w
end Go.Proofs.YtbjgkhbhabdjgaaDoor
