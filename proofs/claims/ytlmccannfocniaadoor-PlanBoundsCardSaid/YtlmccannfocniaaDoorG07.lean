/-
  RunE
-/
import Derived.Test.YtlmccannfocniaaDoorG06
namespace Go.KRun
open Go.RowKit
abbrev Lf := List Value × Hp × List Dec
abbrev Bp := Option (List Value × TypeId)
/-- What is to be shown of a run: tests that were decided ('cs'), ends of a region that must be one ('es'), blocks that must have stayed ('bs'). -/
structure Lg where
  cs : Log
  es : List (Lf × Lf)
  bs : List (Bp × Bp)
def Lg.ok (L : Lg) : Prop := okLog L.cs ∧ (∀ e ∈ L.es, e.1 = e.2) ∧ ∀ e ∈ L.bs, e.1 = e.2
def Lg.add (lg : Log) (L : Lg) : Lg := ⟨lg ++ L.cs, L.es, L.bs⟩
theorem Lg.add_ok {lg : Log} {L : Lg} (h : (Lg.add lg L).ok) : okLog lg ∧ L.ok :=
  ⟨fun x hx => h.1 x (List.mem_append_left _ hx), fun x hx => h.1 x (List.mem_append_right _ hx), h.2⟩
abbrev CallF := Nat → List Value → Hp → List Dec → Lg → Option (Value × Hp × List Dec × Lg)
def Tidy (w w' : World) : Prop := Below w.heap.size w w' ∧ ∀ k, w.heap.size ≤ k → k < w'.heap.size → iced w'.heap[k]?
structure TabOk (T : Tab) : Prop where
  mixed : T.P.follows .mixedOrders = true
  ext : ∀ f vals v lg, T.ext f vals = some (v, lg) → okLog lg → ∀ w, (callFunc f vals.toArray).run T.P w = .ok (.value v) w
  con : ∀ f vals s v s' lg, T.con f vals s = some (v, s', lg) → okLog lg → (∃ F, T.P.funcs[f]? = some F ∧ (F.name == "runtime.NumGoroutine") = false ∧ F.body.isSome = true) ∧ ∀ w, Calls T.P f vals.toArray w fun e w' => e = .returned v ∧ Tidy w w'
  fn : ∀ f F, T.fn f = some F → T.P.funcs[f]? = some F ∧ (F.name == "runtime.NumGoroutine") = false
  hc : ∀ f vals h s v h' s' lg, T.hc f vals h s = some (v, h', s', lg) → okLog lg → (∃ F, T.P.funcs[f]? = some F ∧ (F.name == "runtime.NumGoroutine") = false ∧ F.body.isSome = true) ∧
    ∀ m B w, Emb m B h w → (∀ v ∈ vals, lt h.n v = true) → Calls T.P f (vals.map (mv m)).toArray w fun e w' => ∃ m', e = .returned (mv m' v) ∧ Came m B h w v h' m' w'
structure Rel (m : Mp) (B : Nat) (x : Lf) (a : Act) (w : World) : Prop where
  tmps : a.tmps = (x.1.map (mv m)).toArray
  dfr : a.defers = []
  emb : Emb m B x.2.1 w
  wf : ∀ v ∈ x.1, lt x.2.1.n v = true
def Reach (m : Mp) (B n : Nat) (w : World) (x' : Lf) (a' : Act) (w' : World) : Prop :=
  ∃ m', Agree m m' n ∧ Rel m' B x' a' w' ∧ Below B w w' ∧ n ≤ x'.2.1.n
theorem Reach.trans {m m' : Mp} {B n n' : Nat} {w w' : World} {x : Lf} {a : Act} {w'' : World} (h1 : Agree m m' n) (h2 : Below B w w') (h3 : n ≤ n') (h : Reach m' B n' w' x a w'') : Reach m B n w x a w'' := by
  obtain ⟨m'', k1, k2, k3, k4⟩ := h
  exact ⟨m'', h1.trans k1 h3, k2, h2.trans k3, Nat.le_trans h3 k4⟩
def putL (t : List Value) : Option Tmp → Value → List Value
  | none, _ => t
  | some d, v => t.set d v
theorem Rel.put {m m' : Mp} {B : Nat} {x : Lf} {a : Act} {w w' : World} (R : Rel m B x a w) {v : Value} {h' : Hp} (hm : Agree m m' x.2.1.n) (E : Emb m' B h' w') (hn : x.2.1.n ≤ h'.n) (hv : lt h'.n v = true) (d : Option Tmp) (s' : List Dec) :
    Rel m' B (putL x.1 d v, h', s') (a.put d (mv m' v)) w' := by
  have e : x.1.map (mv m) = x.1.map (mv m') := List.map_congr_left fun y hy => (mv_agree hm (R.wf y hy)).symm
  refine ⟨?_, ?_, E, ?_⟩
  · cases d with
    | none => simp only [Act.put, putL]; rw [R.tmps, e]
    | some d => simp only [Act.put, putL]; rw [R.tmps, e, List.map_set, List.setIfInBounds_toArray]
  · cases d <;> exact R.dfr
  · intro y hy
    cases d with
    | none => exact lt_mono hn (R.wf y hy)
    | some d =>
      simp only [putL] at hy
      rcases List.mem_or_eq_of_mem_set hy with hy | hy
      · exact lt_mono hn (R.wf y hy)
      · subst hy; exact hv
theorem Reach.put {m m' : Mp} {B : Nat} {x : Lf} {a : Act} {w w' : World} (R : Rel m B x a w) {v : Value} {h' : Hp} (C : Came m B x.2.1 w v h' m' w') (d : Option Tmp) (s' : List Dec) :
    Reach m B x.2.1.n w (putL x.1 d v, h', s') (a.put d (mv m' v)) w' :=
  ⟨m', C.agree, R.put C.agree C.emb C.grown C.val d s', C.below, C.grown⟩
theorem Reach.undef {m : Mp} {B : Nat} {x : Lf} {a : Act} {w : World} (R : Rel m B x a w) (d : Option Tmp) (s' : List Dec) :
    Reach m B x.2.1.n w (putL x.1 d undef, x.2.1, s') (a.put d undef) w := by
  have := Reach.put (v := Go.undef) R ⟨Agree.refl _ _, R.emb, Below.refl _ _, Nat.le_refl _, by simp [Go.undef, lt]⟩ d s'
  rw [mv_undef] at this
  exact this
def wantS (ops : Array Oper) (t : List Value) (s : List Dec) (o : Oper) : Bool × List Dec × Log :=
  match o.guard with
  | none => (true, s, [])
  | some g =>
    match (ops[g.1]?).bind (·.dst) with
    | none => (false, s, [])
    | some d =>
      match t[d]? with
      | some (.bool b) => ((pickB b s).1 == g.2, (pickB b s).2.1, (pickB b s).2.2)
      | some (.iface _ _) => (false, s, [(true, false)])
      | _ => (false, s, [])
theorem mv_bool {m : Mp} {v : Value} {b : Bool} (hv : ∀ t u, v ≠ .iface t u) (h : mv m v = .bool b) : v = .bool b := by
  cases v with
  | bool c => simpa [mv, mv2, mv1] using h
  | pointer a => cases a <;> simp [mv, mv2, mv1] at h
  | map a => cases a <;> simp [mv, mv2, mv1] at h
  | slice a l c => cases a <;> simp [mv, mv2, mv1] at h
  | iface t u => exact absurd rfl (hv t u)
  | _ => simp [mv, mv2, mv1] at h
theorem wantS_ok {m : Mp} {ops : Array Oper} {t : List Value} {a : Act} (ha : a.tmps = (t.map (mv m)).toArray) {s : List Dec} {o : Oper} (h : okLog (wantS ops t s o).2.2) :
    (wantS ops t s o).1 = Region.wanted o (yielded ops a.tmps) := by
  unfold wantS Region.wanted yielded at *
  cases hg : o.guard with
  | none => rfl
  | some g =>
    rw [hg] at h
    obtain ⟨j, want⟩ := g
    simp only at h ⊢
    cases hd : (ops[j]?).bind (·.dst) with
    | none => simp
    | some d =>
      simp only [hd] at h ⊢
      rw [ha]
      simp only [Option.bind_some, List.getElem?_toArray, List.getElem?_map]
      cases ht : t[d]? with
      | none => simp
      | some v =>
        simp only [ht] at h
        simp only [Option.map_some]
        split at h
        · rename_i b hb
          cases hb
          have e := pickB_ok h
          simp only [mv, mv2, mv1]
          rw [e]
          rfl
        · have := h _ (List.mem_singleton.2 rfl)
          cases this
        · rename_i hb hi
          have : ∀ b, mv m v ≠ .bool b := fun b hbb => hb b (by rw [mv_bool (fun t u e => hi t u (by rw [e])) hbb])
          split
          · rename_i b hbb; exact absurd (Option.some.inj hbb) (this b)
          · rfl
def goCall (t : List Value) : Op → Option (Nat × List Operand)
  | .call ⟨.value (.func f), args, _⟩ => some (f, args.toList)
  | .call ⟨.value (.tmp k), args, _⟩ =>
    match t.getD k undef with
    | .func (.func f) ⟨[]⟩ ⟨[]⟩ => some (f, args.toList)
    | _ => none
  | _ => none
def execS (T : Tab) (call : CallF) (o : Oper) (x : Lf) (L : Lg) : Option (Lf × Lg) :=
  match goCall x.1 o.op with
  | some c =>
    if (c.2.all okX) = true then
      match T.ext c.1 (c.2.map (ev x.1)) with
      | some r => if ((c.2.map (ev x.1)).all (lt 0) && lt 0 r.1) = true then some ((putL x.1 o.dst r.1, x.2.1, x.2.2), Lg.add r.2 L) else none
      | none =>
        match T.con c.1 (c.2.map (ev x.1)) x.2.2 with
        | some r => if ((c.2.map (ev x.1)).all (lt 0) && lt 0 r.1) = true then some ((putL x.1 o.dst r.1, x.2.1, r.2.1), Lg.add r.2.2 L) else none
        | none =>
          match T.hc c.1 (c.2.map (ev x.1)) x.2.1 x.2.2 with
          | some r => some ((putL x.1 o.dst r.1, r.2.1, r.2.2.1), Lg.add r.2.2.2 L)
          | none =>
            match call c.1 (c.2.map (ev x.1)) x.2.1 x.2.2 L with
            | some (v, h', s', L') =>
              match Nat.beq h'.n x.2.1.n with
              | true => some ((putL x.1 o.dst v, h', s'), L')
              | false => if (lt 0 v && h'.nofm && (h'.cut x.2.1.n).tight) = true then some ((putL x.1 o.dst v, h'.cut x.2.1.n, s'), L') else some ((putL x.1 o.dst v, h', s'), L')
            | none => none
    else none
  | none =>
    match stepOp T x.1 x.2.1 x.2.2 o with
    | some r => some ((putL x.1 o.dst r.1, r.2.1, r.2.2.1), Lg.add r.2.2.2 L)
    | none => none
def CallOk (T : Tab) (call : CallF) : Prop := ∀ f vals h s L v h' s' L', call f vals h s L = some (v, h', s', L') → L'.ok → L.ok ∧
  (∃ F, T.P.funcs[f]? = some F ∧ (F.name == "runtime.NumGoroutine") = false ∧ F.body.isSome = true) ∧
  ∀ m B w, Emb m B h w → (∀ v ∈ vals, lt h.n v = true) → Calls T.P f (vals.map (mv m)).toArray w fun e w' => ∃ m', e = .returned (mv m' v) ∧ Came m B h w v h' m' w'
theorem callFunc_run {P : Program} {f : Nat} {F : Func} (hf : P.funcs[f]? = some F) (hn : (F.name == "runtime.NumGoroutine") = false) (hb : F.body.isSome = true) (args : Array Value) (w : World) :
    (callFunc f args).run P w = .ok (.enter f args) w := by
  have h1 : F.name ≠ "runtime.NumGoroutine" := by simpa using hn
  obtain ⟨c, hc⟩ := Option.isSome_iff_exists.1 hb
  simp [callFunc, hf, h1, hc]
theorem execCall {P : Program} {a : Act} {o : Oper} {f : Nat} {cal : Operand} {args : Array Operand} {tys : Array TypeId} (ho : o.op = .call ⟨.value cal, args, tys⟩) (he : a.eval cal = .func (.func f) #[] #[]) (w : World) :
    (execOp a.eval o).run P w = (callFunc f (args.map a.eval)).run P w := by
  unfold execOp
  rw [ho]
  simp [resolve, he, Deferred.ofValue, invoke]
theorem clean_emb {m : Mp} {B : Nat} {h : Hp} {w w' : World} (E : Emb m B h w) (C : Tidy w w') : Emb m B h w' ∧ Below B w w' := by
  refine ⟨⟨E.len, fun b x hb hx => ?_, E.low, E.ros, E.inj, E.wf, Nat.le_trans E.base C.1.size, fun k hk hk' => ?_, fun b x hb hx => ?_⟩, C.1.mono E.base⟩
  · exact (E.lies b x hb hx).congr (C.1.block _ (E.here hb hx))
  · by_cases h1 : k < w.heap.size
    · rw [C.1.block k h1]; exact E.ice k hk h1
    · exact C.2 k (by omega) hk'
  · exact (E.abs b x hb hx).heap E.base C.1.size fun k hk => C.1.block _ hk
theorem evs_mv {m : Mp} {t : List Value} {a : Act} (ha : a.tmps = (t.map (mv m)).toArray) {args : Array Operand} (h : ∀ x ∈ args.toList, okX x = true) :
    args.map a.eval = ((args.toList.map (ev t)).map (mv m)).toArray := by
  have : args.map a.eval = args.map fun x => mv m (ev t x) := Array.map_congr_left fun x hx => eval_mv ha (h x (by simpa using hx))
  rw [this]
  cases args; simp
theorem execS_ok {T : Tab} (hT : TabOk T) {call : CallF} (hC : CallOk T call) {o : Oper} {x x' : Lf} {L L' : Lg} (hs : execS T call o x L = some (x', L')) (hL : L'.ok) :
    L.ok ∧ ∀ m B a w, Rel m B x a w → ∀ (Q : Exit → Act → World → Prop) (K : Act → World → Prop), (∀ a' w', Reach m B x.2.1.n w x' a' w' → K a' w') → o.wp T.P a w K Q := by
  unfold execS at hs
  split at hs
  · rename_i c hc
    have hop : ∃ cal args tys, o.op = .call ⟨.value cal, args, tys⟩ ∧ c.2 = args.toList ∧ okX cal = true ∧ ev x.1 cal = .func (.func c.1) #[] #[] := by
      unfold goCall at hc
      split at hc
      · rename_i f args tys hop; cases hc; exact ⟨_, args, tys, hop, rfl, rfl, rfl⟩
      · rename_i k args tys hop
        split at hc
        · rename_i f hk; cases hc; exact ⟨_, args, tys, hop, rfl, rfl, hk⟩
        · cases hc
      · cases hc
    obtain ⟨cal, args, tys, hop, hargs, hox, hoe⟩ := hop
    have hev : ∀ (m : Mp) (a : Act) (_ : a.tmps = (x.1.map (mv m)).toArray), a.eval cal = .func (.func c.1) #[] #[] := fun m a ha => by
      rw [eval_mv ha hox, hoe]
      simp [mv, mv2, mv1]
    split at hs
    · rename_i hall
      simp only [List.all_eq_true] at hall
      rw [hargs] at hall
      have stillArgs : ∀ (m : Mp) (a : Act) (_ : a.tmps = (x.1.map (mv m)).toArray), ((c.2.map (ev x.1)).all (lt 0)) = true → args.map a.eval = (c.2.map (ev x.1)).toArray := by
        intro m a ha hst
        rw [evs_mv ha hall, hargs]
        congr 1
        refine (List.map_congr_left fun y hy => mv_still (List.all_eq_true.1 hst y ?_)).trans (List.map_id' _)
        rw [hargs]; exact hy
      split at hs
      · rename_i r hr
        split at hs
        · rename_i hst
          simp only [Bool.and_eq_true] at hst
          cases hs
          obtain ⟨h1, h2⟩ := Lg.add_ok hL
          refine ⟨h2, fun m B a w R Q K hK => ?_⟩
          have hrun := hT.ext _ _ _ _ hr h1 w
          rw [← stillArgs m a R.tmps hst.1] at hrun
          unfold Oper.wp
          rw [execCall hop (hev m a R.tmps), hrun]
          simp only [Oper.upon]
          have := Reach.put R ⟨Agree.refl m _, R.emb, Below.refl _ _, Nat.le_refl _, lt_mono (Nat.zero_le _) hst.2⟩ o.dst x.2.2
          rw [mv_still hst.2] at this
          exact hK _ _ this
        · cases hs
      · split at hs
        · rename_i r hr
          split at hs
          · rename_i hst
            simp only [Bool.and_eq_true] at hst
            cases hs
            obtain ⟨h1, h2⟩ := Lg.add_ok hL
            refine ⟨h2, fun m B a w R Q K hK => ?_⟩
            obtain ⟨⟨F, hF, hFn, hFb⟩, hcalls⟩ := hT.con _ _ _ _ _ _ hr h1
            have hrun := callFunc_run hF hFn hFb (args.map a.eval) w
            unfold Oper.wp
            rw [execCall hop (hev m a R.tmps), hrun]
            simp only [Oper.upon]
            rw [stillArgs m a R.tmps hst.1]
            refine (hcalls w).mono fun e w' he => ?_
            obtain ⟨rfl, hcl⟩ := he
            obtain ⟨E', hb⟩ := clean_emb R.emb hcl
            have := Reach.put R ⟨Agree.refl m _, E', hb, Nat.le_refl _, lt_mono (Nat.zero_le _) hst.2⟩ o.dst r.2.1
            rw [mv_still hst.2] at this
            exact hK _ _ this
          · cases hs
        · split at hs
          · rename_i r hr
            cases hs
            obtain ⟨h1, h2⟩ := Lg.add_ok hL
            refine ⟨h2, fun m B a w R Q K hK => ?_⟩
            obtain ⟨⟨F, hF, hFn, hFb⟩, hcalls⟩ := hT.hc _ _ _ _ _ _ _ _ hr h1
            have hrun := callFunc_run hF hFn hFb (args.map a.eval) w
            unfold Oper.wp
            rw [execCall hop (hev m a R.tmps), hrun]
            simp only [Oper.upon]
            rw [evs_mv R.tmps hall, ← hargs]
            refine (hcalls m B w R.emb (fun y hy => ?_)).mono fun e w' he => ?_
            · obtain ⟨z, hz, rfl⟩ := List.mem_map.1 hy
              exact ev_lt R.wf (hall z (hargs ▸ hz))
            · obtain ⟨m', rfl, C⟩ := he
              exact hK _ _ (Reach.put R C o.dst _)
          · split at hs
            · rename_i v h' s' L1 hcall
              have hres : L1 = L' := by
                split at hs
                · cases hs; rfl
                · split at hs <;> (cases hs; rfl)
              subst hres
              obtain ⟨h2, ⟨F, hF, hFn, hFb⟩, hcalls⟩ := hC _ _ _ _ _ _ _ _ _ hcall hL
              refine ⟨h2, fun m B a w R Q K hK => ?_⟩
              have hrun := callFunc_run hF hFn hFb (args.map a.eval) w
              unfold Oper.wp
              rw [execCall hop (hev m a R.tmps), hrun]
              simp only [Oper.upon]
              rw [evs_mv R.tmps hall, ← hargs]
              refine (hcalls m B w R.emb (fun y hy => ?_)).mono fun e w' he => ?_
              · obtain ⟨z, hz, rfl⟩ := List.mem_map.1 hy
                exact ev_lt R.wf (hall z (hargs ▸ hz))
              · obtain ⟨m', rfl, C⟩ := he
                split at hs
                · cases hs
                  exact hK _ _ (Reach.put R C o.dst s')
                split at hs
                · rename_i hcut
                  simp only [Bool.and_eq_true] at hcut
                  obtain ⟨⟨hcut1, _⟩, hcut2⟩ := hcut
                  cases hs
                  have := Reach.put R ⟨Agree.refl m _, C.emb.cut C.agree C.grown hcut2, C.below, by simp [Hp.cut], lt_mono (Nat.zero_le _) hcut1⟩ o.dst s'
                  rw [mv_still hcut1] at this
                  rw [mv_still hcut1]
                  exact hK _ _ this
                · cases hs
                  exact hK _ _ (Reach.put R C o.dst s')
            · cases hs
    · cases hs
  · split at hs
    · rename_i r hr
      cases hs
      obtain ⟨h1, h2⟩ := Lg.add_ok hL
      refine ⟨h2, fun m B a w R Q K hK => ?_⟩
      obtain ⟨m', w', nx, hrun, hnx, C⟩ := stepOp_ok (v := r.1) (h' := r.2.1) (s' := r.2.2.1) (lg := r.2.2.2) R.tmps R.emb R.wf hr h1
      unfold Oper.wp
      rw [hrun]
      rcases hnx with rfl | ⟨rfl, hv⟩
      · simp only [Oper.upon]
        exact hK _ _ (Reach.put R C o.dst _)
      · simp only [Oper.upon]
        have := Reach.put R C o.dst r.2.2.1
        rw [hv, mv_undef] at this
        rw [← hv] at this
        exact hK _ _ (by rw [← hv] at *; exact this)
    · cases hs
def opS (T : Tab) (call : CallF) (ops : Array Oper) (o : Oper) (x : Lf) (L : Lg) : Option (Lf × Lg) :=
  match (wantS ops x.1 x.2.2 o).1 with
  | true => execS T call o (x.1, x.2.1, (wantS ops x.1 x.2.2 o).2.1) (Lg.add (wantS ops x.1 x.2.2 o).2.2 L)
  | false => some ((putL x.1 o.dst undef, x.2.1, (wantS ops x.1 x.2.2 o).2.1), Lg.add (wantS ops x.1 x.2.2 o).2.2 L)
theorem opS_ok {T : Tab} (hT : TabOk T) {call : CallF} (hC : CallOk T call) {ops : Array Oper} {i : Nat} {o : Oper} (hi : ops[i]? = some o) {x x' : Lf} {L L' : Lg} (hs : opS T call ops o x L = some (x', L')) (hL : L'.ok) :
    L.ok ∧ ∀ m B a w, Rel m B x a w → ∀ (Q : Exit → Act → World → Prop) (K : Act → World → Prop), (∀ a' w', Reach m B x.2.1.n w x' a' w' → K a' w') → wpOp T.P ops Q i K a w := by
  unfold opS at hs
  cases hw : (wantS ops x.1 x.2.2 o).1 with
  | true =>
    rw [hw] at hs
    simp only at hs
    obtain ⟨h1, h2⟩ := execS_ok hT hC hs hL
    obtain ⟨h3, h4⟩ := Lg.add_ok h1
    refine ⟨h4, fun m B a w R Q K hK => ?_⟩
    have e := wantS_ok R.tmps h3
    rw [hw] at e
    unfold wpOp
    simp only [hi, ← e, if_true]
    exact .inl (h2 m B a w ⟨R.tmps, R.dfr, R.emb, R.wf⟩ Q K hK)
  | false =>
    rw [hw] at hs
    simp only at hs
    cases hs
    obtain ⟨h3, h4⟩ := Lg.add_ok hL
    refine ⟨h4, fun m B a w R Q K hK => ?_⟩
    have e := wantS_ok R.tmps h3
    rw [hw] at e
    unfold wpOp
    simp only [hi, ← e, Bool.false_eq_true, if_false]
    exact hK _ _ (Reach.undef R o.dst _)
def evOps (T : Tab) (call : CallF) (ops : Array Oper) : List Oper → Lf → Lg → Option (Lf × Lg)
  | [], x, L => some (x, L)
  | o :: l, x, L =>
    match opS T call ops o x L with
    | some r => evOps T call ops l r.1 r.2
    | none => none
theorem evOps_ok {T : Tab} (hT : TabOk T) {call : CallF} (hC : CallOk T call) {ops : Array Oper} : ∀ (l : List Oper) (k : Nat) (_ : ops.toList.drop k = l) (x x' : Lf) (L L' : Lg), evOps T call ops l x L = some (x', L') → L'.ok →
    L.ok ∧ ∀ m B a w, Rel m B x a w → ∀ Q : Exit → Act → World → Prop, (∀ a' w', Reach m B x.2.1.n w x' a' w' → Q .normal a' w') → wpOps T.P ops Q (List.range' k l.length) a w := by
  intro l
  induction l with
  | nil =>
    intro k _ x x' L L' hs hL
    simp only [evOps] at hs
    cases hs
    exact ⟨hL, fun m B a w R Q hQ => hQ _ _ ⟨m, Agree.refl _ _, R, Below.refl _ _, Nat.le_refl _⟩⟩
  | cons o l ih =>
    intro k hk x x' L L' hs hL
    simp only [evOps] at hs
    split at hs
    · rename_i r hr
      have hi : ops[k]? = some o := by
        have : (ops.toList.drop k)[0]? = some o := by rw [hk]; rfl
        rw [List.getElem?_drop] at this
        simpa using this
      have hk' : ops.toList.drop (k + 1) = l := by
        rw [← List.drop_drop, hk]; rfl
      obtain ⟨h1, h2⟩ := ih (k + 1) hk' _ _ _ _ hs hL
      obtain ⟨h3, h4⟩ := opS_ok (x' := r.1) (L' := r.2) hT hC hi hr h1
      refine ⟨h3, fun m B a w R Q hQ => ?_⟩
      simp only [List.length_cons, List.range'_succ]
      rw [wpOps_cons]
      refine h4 m B a w R Q _ fun a' w' hR => ?_
      obtain ⟨m', k1, k2, k3, k4⟩ := hR
      exact h2 m' B a' w' k2 Q fun a'' w'' hR' => hQ a'' w'' (Reach.trans k1 k3 k4 hR')
    · cases hs
end Go.KRun
