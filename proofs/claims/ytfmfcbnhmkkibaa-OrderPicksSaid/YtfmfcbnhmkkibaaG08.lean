/-
  A RUN THAT THE KERNEL RECKONS, XIII: a call whose arguments are rows that lie in memory that is there: what its body does in the smallest memory (the rows alone, only read) is what the call does in every one.
-/
import Derived.Test.YtfmfcbnhmkkibaaG07
import Derived.Test.YtfmfcbnhmkkibaaG04
namespace Go.KRun
open Go.RowKit

/-! ### values that point into some blocks alone -/
def oc1 (bs : List Nat) : Value → Bool
  | .pointer (some a) => bs.contains a.block
  | .slice (some a) _ _ => bs.contains a.block
  | .iface t _ => !(Nat.beq t dead)
  | _ => true
def oc2 (bs : List Nat) : Value → Bool
  | .agg cs => cs.toList.all (oc1 bs)
  | v => oc1 bs v
def oc (bs : List Nat) : Value → Bool
  | .tuple vs => vs.toList.all (oc2 bs)
  | v => oc2 bs v
theorem mv1_on {m m' : Mp} {bs : List Nat} (h : ∀ b ∈ bs, m b = m' b) {v : Value} (hv : oc1 bs v = true) : mv1 m v = mv1 m' v := by
  unfold mv1
  split
  · simp only [oc1, List.contains_iff_mem] at hv; simp [mvA, h _ hv]
  · simp only [oc1, List.contains_iff_mem] at hv; simp [mvA, h _ hv]
  · rfl
  · rfl
theorem mv2_on {m m' : Mp} {bs : List Nat} (h : ∀ b ∈ bs, m b = m' b) {v : Value} (hv : oc2 bs v = true) : mv2 m v = mv2 m' v := by
  unfold mv2
  split
  · rename_i cs
    simp only [oc2, List.all_eq_true] at hv
    congr 1
    exact Array.map_congr_left fun x hx => mv1_on h (hv x (by simpa using hx))
  · rename_i hna
    refine mv1_on h ?_
    unfold oc2 at hv
    split at hv
    · rename_i cs; exact absurd rfl (hna cs)
    · exact hv
theorem mv_on {m m' : Mp} {bs : List Nat} (h : ∀ b ∈ bs, m b = m' b) {v : Value} (hv : oc bs v = true) : mv m v = mv m' v := by
  unfold mv
  split
  · rename_i vs
    simp only [oc, List.all_eq_true] at hv
    congr 1
    exact Array.map_congr_left fun x hx => mv2_on h (hv x (by simpa using hx))
  · rename_i hna
    refine mv2_on h ?_
    unfold oc at hv
    split at hv
    · rename_i cs; exact absurd rfl (hna cs)
    · exact hv
theorem oc_ren {bs : List Nat} {f : Nat → Nat} {n : Nat} (hf : ∀ b ∈ bs, f b < n) {v : Value} (hv : oc bs v = true) : lt n (rn f v) = true := by
  have h1 : ∀ v, oc1 bs v = true → lt1 n (rn1 f v) = true := fun v h => by
    cases v with
    | pointer a =>
      cases a with
      | none => rfl
      | some a => simp only [oc1, List.contains_iff_mem] at h; exact blt_iff.2 (hf _ h)
    | slice a l c =>
      cases a with
      | none => rfl
      | some a => simp only [oc1, List.contains_iff_mem] at h; exact blt_iff.2 (hf _ h)
    | iface t u => simp only [oc1, Bool.not_eq_true'] at h; simp [rn1, lt1, h]
    | _ => rfl
  have h2 : ∀ v, oc2 bs v = true → lt2 n (rn2 f v) = true := fun v h => by
    cases v with
    | agg cs =>
      simp only [oc2, lt2, rn2, Array.toList_map, List.all_eq_true, List.mem_map] at *
      rintro _ ⟨y, hy, rfl⟩
      exact h1 y (h y hy)
    | pointer a =>
      cases a with
      | none => rfl
      | some a => exact h1 (.pointer (some a)) h
    | slice a l c =>
      cases a with
      | none => rfl
      | some a => exact h1 (.slice (some a) l c) h
    | iface t u => exact h1 (.iface t u) h
    | _ => rfl
  cases v with
  | tuple cs =>
    simp only [oc, lt, rn, Array.toList_map, List.all_eq_true, List.mem_map] at *
    rintro _ ⟨y, hy, rfl⟩
    exact h2 y (hv y hy)
  | agg cs => exact h2 (.agg cs) hv
  | pointer a =>
    cases a with
    | none => rfl
    | some a => exact h1 (.pointer (some a)) hv
  | slice a l c =>
    cases a with
    | none => rfl
    | some a => exact h1 (.slice (some a) l c) hv
  | iface t u => exact h1 (.iface t u) hv
  | _ => rfl
/-! ### the smallest memory -/
/-- rows that are only read, no address in them -/
def Hp.rows (h : Hp) : Prop := h.l.length = h.n ∧ ∀ b x, h.blk? b = some x → ro x.2 = true ∧ (∀ v ∈ x.1, still v = true) ∧ ab x.2 = false
/-- these rows are there: block i's cells are the first of block s i's -/
def Hp.fits (h0 : Hp) (s : Nat → Nat) (h : Hp) : Prop := ∀ i x, h0.blk? i = some x → tomb x.2 = false → ∃ y r, h.blk? (s i) = some y ∧ tomb y.2 = false ∧ rt y.2 = rt x.2 ∧ y.1 = x.1 ++ r
theorem Emb.small {m : Mp} {B : Nat} {h h0 : Hp} {w : World} {s : Nat → Nat} (E : Emb m B h w) (hr : h0.rows) (hf : h0.fits s h) : Emb (fun i => m (s i)) w.heap.size h0 w where
  len := hr.1
  lies := fun b x hb hx => by
    obtain ⟨y, r, h1, h2, h3, h4⟩ := hf b x hb hx
    obtain ⟨r', z, l0, l1, _⟩ := E.lies _ _ h1 h2
    have calm := (hr.2 b x hb).2.1
    have e : x.1.map (mv1 m) = x.1.map (mv1 fun i => m (s i)) := still_map calm
    rw [h4, List.map_append] at l0 l1
    refine ⟨r.map (mv1 m) ++ r', z, ?_, ?_, fun hro => ?_⟩
    · simp at l0 ⊢; omega
    · rw [← e, l1, List.append_assoc]
    · rw [(hr.2 b x hb).1] at hro; cases hro
  low := fun b x hb hro => by rw [(hr.2 b x hb).1] at hro; cases hro
  ros := fun b x hb hx _ => by
    obtain ⟨y, r, h1, h2, _, _⟩ := hf b x hb hx
    exact E.here h1 h2
  inj := fun b b' x x' hb _ hro => by rw [(hr.2 b x hb).1] at hro; cases hro
  wf := fun b x hb v hv => still_lt (Nat.lt_of_le_of_lt (Nat.zero_le _) (Hp.blk_lt hb)) ((hr.2 b x hb).2.1 v hv)
  base := Nat.le_refl _
  ice := fun k h1 h2 => by omega
  abs := fun b x hb hx => by rw [(hr.2 b x hb).2.2] at hx; cases hx
/-- behind such a call: the value in the caller's numbers; no block of the call's own is kept -/
theorem row_calls {T : Tab} {f : Nat} {F : Func} {c : Code} (hF : T.P.funcs[f]? = some F) (hc : F.body = some c) {h0 : Hp} (hr : h0.rows) {vals : List Value} (hvals : ∀ v ∈ vals, lt h0.n v = true) {v : Value} (hv : oc (List.range h0.n) v = true)
    (hrun : Runs T c (vals ++ List.replicate (F.ntmps - vals.length) undef, h0, []) fun e y => (e = none ∨ e = some none) ∧ resS T.P F y.1 y.2.1 = some v)
    {m : Mp} {B : Nat} {h : Hp} {w : World} (E : Emb m B h w) {s : Nat → Nat} (hs : ∀ i, i < h0.n → s i < h.n) (hf : h0.fits s h) :
    Calls T.P f ((vals.map (rn s)).map (mv m)).toArray w fun e w' => e = .returned (mv m (rn s v)) ∧ Came m B h w (rn s v) h m w' := by
  have E0 := E.small hr hf
  have ev : (vals.map (rn s)).map (mv m) = vals.map (mv fun i => m (s i)) := by
    rw [List.map_map]
    exact List.map_congr_left fun y _ => mv_rn m s y
  rw [ev]
  refine calls_of_wp hF hc ?_
  have R : Rel (fun i => m (s i)) w.heap.size (vals ++ List.replicate (F.ntmps - vals.length) undef, h0, []) { tmps := (vals.map (mv fun i => m (s i))).toArray ++ Array.replicate (F.ntmps - (vals.map (mv fun i => m (s i))).toArray.size) undef, defers := [] } w := by
    refine ⟨?_, rfl, E0, ?_⟩
    · simp [mv_undef]
    · intro y hy
      rcases List.mem_append.1 hy with hy | hy
      · exact hvals y hy
      · rw [List.eq_of_mem_replicate hy]; simp [undef, lt]
  refine hrun _ _ _ w R _ fun e y he a' w' hR => ?_
  obtain ⟨hex, hres⟩ := he
  obtain ⟨m1, k1, k2, k3, _⟩ := hR
  obtain ⟨r1, r2⟩ := resS_run k2.emb k2.wf hres
  rw [← k2.tmps] at r1
  have e1 : mv m1 v = mv m (rn s v) := by
    rw [mv_rn]
    exact mv_on (fun b hb => k1 b (by simpa using hb)) hv
  rw [e1] at r1
  have td : Tidy w w' := ⟨k3, fun k h1 h2 => k2.emb.ice k h1 h2⟩
  obtain ⟨E', hb⟩ := clean_emb E td
  have post : a'.defers = [] ∧ ∃ v', (results F a'.tmps).run T.P w' = .ok v' w' ∧ (Ending.returned v' = .returned (mv m (rn s v)) ∧ Came m B h w (rn s v) h m w') :=
    ⟨k2.dfr, _, r1, rfl, ⟨Agree.refl _ _, E', hb, Nat.le_refl _, oc_ren (fun b hb => hs b (by simpa using hb)) hv⟩⟩
  rcases hex with rfl | rfl <;> exact post
/-- the same, where one block of the call's own is kept: 'k' in the small memory, the next one in the caller's -/
theorem row_calls1 {T : Tab} {f : Nat} {F : Func} {c : Code} (hF : T.P.funcs[f]? = some F) (hc : F.body = some c) {h0 : Hp} (hr : h0.rows) {vals : List Value} (hvals : ∀ v ∈ vals, lt h0.n v = true) {v : Value} {k : Nat}
    {cs : List Value} {ty : TypeId} (hcs : ∀ u ∈ cs, lt1 0 u = true) (hty : ro ty = false)
    (hrun : RunsW T c (vals ++ List.replicate (F.ntmps - vals.length) undef, h0, []) fun e y => (e = none ∨ e = some none) ∧ resS T.P F y.1 y.2.1 = some v ∧ ∃ r, y.2.1.blk? k = some (cs ++ r, ty))
    (hv0 : oc [k] v = true)
    {m : Mp} {B : Nat} {h : Hp} {w : World} (E : Emb m B h w) {s : Nat → Nat} (hf : h0.fits s h) :
    Calls T.P f ((vals.map (rn s)).map (mv m)).toArray w fun e w' => ∃ m', e = .returned (mv m' (rn (fun _ => h.n) v)) ∧ Came m B h w (rn (fun _ => h.n) v) (h.push cs ty) m' w' := by
  have E0 := E.small hr hf
  have ev : (vals.map (rn s)).map (mv m) = vals.map (mv fun i => m (s i)) := by
    rw [List.map_map]
    exact List.map_congr_left fun y _ => mv_rn m s y
  rw [ev]
  refine calls_of_wp hF hc ?_
  have R : Rel (fun i => m (s i)) w.heap.size (vals ++ List.replicate (F.ntmps - vals.length) undef, h0, []) { tmps := (vals.map (mv fun i => m (s i))).toArray ++ Array.replicate (F.ntmps - (vals.map (mv fun i => m (s i))).toArray.size) undef, defers := [] } w := by
    refine ⟨?_, rfl, E0, ?_⟩
    · simp [mv_undef]
    · intro y hy
      rcases List.mem_append.1 hy with hy | hy
      · exact hvals y hy
      · rw [List.eq_of_mem_replicate hy]; simp [undef, lt]
  refine hrun _ _ _ w R _ fun e y he m1 a' w' k2 k3 => ?_
  obtain ⟨hex, hres, r, hblk⟩ := he
  obtain ⟨r1, r2⟩ := resS_run k2.emb k2.wf hres
  rw [← k2.tmps] at r1
  have td : Tidy w w' := ⟨k3, fun k h1 h2 => k2.emb.ice k h1 h2⟩
  obtain ⟨E', hb⟩ := clean_emb E td
  have hlow : w.heap.size ≤ (m1 k).1 := k2.emb.low k _ hblk hty
  have hlie : lie w' (m1 k) (cs.map (mv1 m)) ty := by
    obtain ⟨r', z, l0, l1, l2⟩ := k2.emb.lies k _ hblk (tomb_ro hty)
    have e : cs.map (mv1 m1) = cs.map (mv1 m) := map_still hcs
    simp only [List.map_append] at l0 l1
    refine ⟨r.map (mv1 m1) ++ r', z, ?_, ?_, l2⟩
    · simp at l0 ⊢; omega
    · rw [← e, l1, List.append_assoc]
  have Ea := E'.adopt cs ty hty (fun u hu => lt1_mono (Nat.zero_le _) (hcs u hu)) hlie (Nat.le_trans E.base hlow) (fun b x hbx hx heq => by
    have := E.here hbx (tomb_ro hx)
    omega)
  have e1 : mv m1 v = mv (upd m h.n (m1 k)) (rn (fun _ => h.n) v) := by
    rw [mv_rn]
    refine mv_on (fun b hb => ?_) hv0
    rw [List.mem_singleton.1 hb]
    simp [upd]
  rw [e1] at r1
  have post : a'.defers = [] ∧ ∃ v', (results F a'.tmps).run T.P w' = .ok v' w' ∧ ∃ m', Ending.returned v' = .returned (mv m' (rn (fun _ => h.n) v)) ∧ Came m B h w (rn (fun _ => h.n) v) (h.push cs ty) m' w' :=
    ⟨k2.dfr, _, r1, upd m h.n (m1 k), rfl, ⟨upd_agree _ _ _, Ea, hb, Nat.le_succ _, oc_ren (bs := [k]) (fun b hb => by show h.n < h.n + 1; omega) hv0⟩⟩
  rcases hex with rfl | rfl <;> exact post
end Go.KRun

/-
  What is known of calls that reach memory ('AnsH'), as a table for the reckoner; small helps for logs.
-/
namespace Go.Proofs.Ytfmfcbnhmkkibaa
open Go.KRun
set_option maxRecDepth 100000

theorem okOne {p : Bool × Bool} (h : p.1 = p.2) : okLog [p] := fun x hx => by rw [List.mem_singleton.1 hx]; exact h
theorem okTwo {p : Bool × Bool} {l : Log} (h : p.1 = p.2) (hl : okLog l) : okLog (p :: l) := fun x hx => by
  rcases List.mem_cons.1 hx with rfl | hx
  · exact h
  · exact hl x hx
theorem wrapI {n : Int} (h0 : -9223372036854775808 ≤ n) (h1 : n ≤ 9223372036854775807) : IntKind.i64.wrap n = n := by
  simp [IntKind.wrap, IntKind.bits, IntKind.signed]; omega
/-! ### what is known of calls with rows -/
abbrev Hc := Nat → List Value → Hp → List Dec → Option (Value × Hp × List Dec × Log)
abbrev AnsH := List Value → Hp → List Dec → Option (Value × Hp × List Dec × Log)
def AnsHOk (f : Nat) (g : AnsH) : Prop := ∀ vals h s v h' s' lg, g vals h s = some (v, h', s', lg) → okLog lg → ∀ m B w, Emb m B h w → (∀ v ∈ vals, lt h.n v = true) → Calls Try.prog f (vals.map (mv m)).toArray w fun e w' => ∃ m', e = .returned (mv m' v) ∧ Came m B h w v h' m' w'
structure HcOk (hc : Hc) : Prop where
  fn : ∀ f vals h s r, hc f vals h s = some r → ∃ F, Try.prog.funcs[f]? = some F ∧ F.body.isSome = true
  calls : ∀ f, AnsHOk f (hc f)
def hcN : Hc := fun _ _ _ _ => none
theorem hcN_ok : HcOk hcN := ⟨fun _ _ _ _ _ h => (by cases h), fun _ _ _ _ _ _ _ _ h => (by cases h)⟩
def altH (f : Nat) (g : AnsH) (hc : Hc) : Hc := fun f' vals h s => if Nat.beq f' f = true then g vals h s else hc f' vals h s
theorem altH_ok {f : Nat} {F : Func} (hF : Try.prog.funcs[f]? = some F) (hb : F.body.isSome = true) {g : AnsH} (hg : AnsHOk f g) {hc : Hc} (h : HcOk hc) : HcOk (altH f g hc) where
  fn := fun f' vals h' s r hr => by
    unfold altH at hr
    split at hr
    · rename_i e
      rw [Nat.eq_of_beq_eq_true e]
      exact ⟨F, hF, hb⟩
    · exact h.fn _ _ _ _ _ hr
  calls := fun f' vals h' s v h'' s' lg hr => by
    unfold altH at hr
    split at hr
    · rename_i e
      rw [Nat.eq_of_beq_eq_true e]
      exact hg _ _ _ _ _ _ _ hr
    · exact h.calls f' _ _ _ _ _ _ _ hr
def tabH (P : Program) (ext : Nat → List Value → Option (Value × Log)) (con : Con) (hc : Hc) : Tab := { P := P, fn := fun f => P.funcs[f]?, ext := ext, con := con, sym := true, hc := hc }
theorem tabH_ok {con : Con} (h : ConOk con) {hc : Hc} (hh : HcOk hc) : TabOk (tabH Try.prog extY con hc) where
  mixed := mixed
  ext := extY_ok
  con := fun f vals s v s' lg hc hl => ⟨by obtain ⟨F, h1, h2⟩ := h.fn f vals s v s' lg hc; exact ⟨F, (fns_ok f F h1).1, (fns_ok f F h1).2, h2⟩, h.calls f vals s v s' lg hc hl⟩
  fn := fns_ok
  hc := fun f vals h0 s v h' s' lg hr hl => ⟨by obtain ⟨F, h1, h2⟩ := hh.fn f vals h0 s _ hr; exact ⟨F, (fns_ok f F h1).1, (fns_ok f F h1).2, h2⟩, hh.calls f vals h0 s v h' s' lg hr hl⟩
end Go.Proofs.Ytfmfcbnhmkkibaa

/-
  PLAIN ARITHMETIC: lists of words, the lowest first: what is left of them without noughts at the end; the number that they are.
-/
namespace Go.Nt

/-- how many are left without noughts at the end -/
def trimN : List Int → Nat
  | [] => 0
  | x :: r => if trimN r = 0 then (if x = 0 then 0 else 1) else trimN r + 1
theorem trimN_le : ∀ L : List Int, trimN L ≤ L.length
  | [] => Nat.le_refl _
  | x :: r => by
    have := trimN_le r
    unfold trimN
    split
    · split <;> simp
    · simp; omega
theorem trimN_high : ∀ (L : List Int) (i : Nat), trimN L ≤ i → L.getD i 0 = 0
  | [], i, _ => by simp
  | x :: r, i, h => by
    unfold trimN at h
    cases i with
    | zero =>
      split at h
      · split at h
        · rename_i h1; simp [h1]
        · omega
      · omega
    | succ i =>
      have := trimN_high r i (by split at h <;> (try split at h) <;> omega)
      simpa using this
theorem trimN_top : ∀ L : List Int, trimN L = 0 ∨ L.getD (trimN L - 1) 0 ≠ 0
  | [] => .inl rfl
  | x :: r => by
    have ih := trimN_top r
    unfold trimN
    split
    · split
      · exact .inl rfl
      · rename_i h; exact .inr (by simpa using h)
    · rename_i h
      rcases ih with ih | ih
      · exact absurd ih h
      · refine .inr ?_
        obtain ⟨k, hk⟩ : ∃ k, trimN r = k + 1 := ⟨trimN r - 1, by omega⟩
        rw [hk] at ih ⊢
        simpa using ih
theorem trimN_uniq {L : List Int} {k : Nat} (h1 : ∀ i, k ≤ i → L.getD i 0 = 0) (h2 : k = 0 ∨ L.getD (k - 1) 0 ≠ 0) : trimN L = k := by
  rcases Nat.lt_trichotomy (trimN L) k with h | h | h
  · rcases h2 with h2 | h2
    · omega
    · exact absurd (trimN_high L (k - 1) (by omega)) h2
  · exact h
  · rcases trimN_top L with h3 | h3
    · omega
    · exact absurd (h1 (trimN L - 1) (by omega)) h3
/-- from the highest down -/
def topCmp (L M : List Int) : Nat → Int
  | 0 => 0
  | k + 1 => if L.getD k 0 = M.getD k 0 then topCmp L M k else if L.getD k 0 < M.getD k 0 then -1 else 1
def cmpL (L M : List Int) : Int := if L.length = M.length then topCmp L M L.length else if L.length < M.length then -1 else 1
end Go.Nt
