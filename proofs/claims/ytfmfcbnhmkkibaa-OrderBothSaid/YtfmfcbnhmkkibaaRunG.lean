/-
  A RUN THAT THE KERNEL RECKONS, VII: code and calls, and the theorem: what the reckoner answers of a call is what the call answers, in every world.
-/
import Derived.Test.YtfmfcbnhmkkibaaRunF
namespace Go.KRun
open Go.RowKit

/-- how code ends: at its end; by a return; by leaving a block -/
abbrev Ex := Option (Option Nat)
def out : Ex → Exit
  | none => .normal
  | some (some id) => .exit id
  | some none => .ret

/-! ### results -/
def resV (P : Program) (t : List Value) (h : Hp) : ResultVar → Option Value
  | .tmp i => some (t.getD i undef)
  | .cell i ty =>
    match t.getD i undef with
    | .pointer (some a) => loadS P ty a h
    | _ => none
def resL (P : Program) (t : List Value) (h : Hp) : List ResultVar → Option (List Value)
  | [] => some []
  | r :: rs =>
    match resV P t h r with
    | some v =>
      match resL P t h rs with
      | some vs => some (v :: vs)
      | none => none
    | none => none
def resS (P : Program) (F : Func) (t : List Value) (h : Hp) : Option Value :=
  match resL P t h F.results.toList with
  | some [v] => some v
  | some vs => if (vs.all noT) = true then some (.tuple vs.toArray) else none
  | none => none

theorem getD_mv {m : Mp} (t : List Value) (i : Nat) : (t.map (mv m)).toArray.getD i undef = mv m (t.getD i undef) := by
  simp only [List.getD]
  cases h : t[i]? with
  | none => simp [h, mv_undef]
  | some v => simp [h]

theorem resL_run {m : Mp} {B : Nat} {P : Program} {t : List Value} {h : Hp} {w : World} (E : Emb m B h w) (ht : ∀ v ∈ t, lt h.n v = true) : ∀ (rs : List ResultVar) (vs : List Value), resL P t h rs = some vs →
    (rs.mapM (m := Sem) fun
      | .tmp i => pure ((t.map (mv m)).toArray.getD i undef)
      | .cell i ty => do loadVar ty (← asAddr ((t.map (mv m)).toArray.getD i undef))).run P w = .ok (vs.map (mv m)) w ∧ ∀ v ∈ vs, lt h.n v = true
  | [], vs, hs => by
    simp only [resL] at hs
    cases hs
    exact ⟨by simp, by simp⟩
  | r :: rs, vs, hs => by
    simp only [resL] at hs
    split at hs
    · rename_i v hv
      split at hs
      · rename_i vs' hvs
        cases hs
        obtain ⟨h1, h2⟩ := resL_run E ht rs vs' hvs
        rw [List.mapM_cons]
        cases r with
        | tmp i =>
          simp only [resV] at hv
          cases hv
          refine ⟨?_, fun y hy => ?_⟩
          · simp only [getD_mv] at h1 ⊢
            simp only [Sem.run_bind, Sem.run_pure, Result.andThen_ok, h1, List.map_cons]
          · rcases List.mem_cons.1 hy with rfl | hy
            · simp only [List.getD]
              cases hh : t[i]? with
              | none => simp [undef, lt]
              | some u => exact ht u (List.mem_of_getElem? hh)
            · exact h2 y hy
        | cell i ty =>
          simp only [resV] at hv
          split at hv
          · rename_i a ha
            obtain ⟨g1, g2⟩ := loadS_run (P := P) E hv
            refine ⟨?_, fun y hy => ?_⟩
            · have e : mv m (Value.pointer (some a)) = .pointer (some (mvA m a)) := rfl
              have g3 : (loadVar ty (mvA m a)).run P w = .ok (mv m v) w := by
                simpa [Instr.loadAt, Instr.sureAddr] using g1
              simp only [getD_mv] at h1 ⊢
              have g4 : (asAddr (.pointer (some (mvA m a)))).run P w = .ok (mvA m a) w := rfl
              simp only [Sem.run_bind, Sem.run_pure, Result.andThen_ok, h1, ha, e, g4, g3, List.map_cons]
            · rcases List.mem_cons.1 hy with rfl | hy
              · exact g2
              · exact h2 y hy
          · cases hv
      · cases hs
    · cases hs

theorem tuple_mv {m : Mp} {vs : List Value} (h : (vs.all noT) = true) : mv m (.tuple vs.toArray) = .tuple (vs.map (mv m)).toArray := by
  simp only [mv, List.map_toArray]
  congr 2
  refine List.map_congr_left fun v hv => ?_
  have := List.all_eq_true.1 h v hv
  cases v <;> simp_all [noT, mv]

theorem resS_run {m : Mp} {B : Nat} {P : Program} {F : Func} {t : List Value} {h : Hp} {w : World} {v : Value} (E : Emb m B h w) (ht : ∀ v ∈ t, lt h.n v = true) (hs : resS P F t h = some v) :
    (results F (t.map (mv m)).toArray).run P w = .ok (mv m v) w ∧ lt h.n v = true := by
  unfold resS at hs
  have key : ∀ vs, resL P t h F.results.toList = some vs → (results F (t.map (mv m)).toArray).run P w = .ok (if hh : (vs.map (mv m)).toArray.size = 1 then (vs.map (mv m)).toArray[0] else .tuple (vs.map (mv m)).toArray) w ∧ ∀ v ∈ vs, lt h.n v = true := by
    intro vs hvs
    obtain ⟨h1, h2⟩ := resL_run E ht F.results.toList vs hvs
    refine ⟨?_, h2⟩
    unfold results
    have e : F.results = F.results.toList.toArray := by simp
    rw [e]
    rw [List.mapM_toArray]
    simp only [Sem.run_bind, Sem.run_map, Sem.run_pure]
    erw [h1]
    rfl
  split at hs
  · rename_i u hu
    cases hs
    obtain ⟨h1, h2⟩ := key _ hu
    exact ⟨by simpa using h1, h2 _ (by simp)⟩
  · rename_i vs hne hu
    split at hs
    · rename_i hall
      cases hs
      obtain ⟨h1, h2⟩ := key _ hu
      have hlen : ¬ (vs.map (mv m)).toArray.size = 1 := by
        intro hl
        simp only [List.size_toArray, List.length_map] at hl
        obtain ⟨u, hu'⟩ := List.length_eq_one_iff.1 hl
        exact hne u hu'
      rw [dif_neg hlen] at h1
      refine ⟨by rw [h1, tuple_mv hall], ?_⟩
      simp only [lt, List.all_eq_true]
      intro y hy
      have h3 := h2 y hy
      have h4 := List.all_eq_true.1 hall y hy
      cases y <;> simp_all [lt, noT]
    · cases hs
  · cases hs

/-! ### code and calls -/
def callBy (T : Tab) (evc : Code → Lf → Lg → Option (Ex × Lf × Lg)) : CallF := fun f vals h s L =>
  match T.fn f with
  | none => none
  | some F =>
    match F.body with
    | none => none
    | some c =>
      match evc c (vals ++ List.replicate (F.ntmps - vals.length) undef, h, s) L with
      | some (some (some _), _, _) => none
      | some (_, x, L') =>
        match resS T.P F x.1 x.2.1 with
        | some v => some (v, x.2.1, x.2.2, L')
        | none => none
      | none => none

def evC (T : Tab) : Nat → Bool → Code → Lf → Lg → Option (Ex × Lf × Lg)
  | 0, _, _, _, _ => none
  | n + 1, true, c, x, L =>
    match evC T n false c x L with
    | some (none, x', L') => evC T n true c x' L'
    | r => r
  | n + 1, false, c, x, L =>
    match c with
    | .skip => some (none, x, L)
    | .label _ => some (none, x, L)
    | .region _ ops draw =>
      match regS T (callBy T (evC T n false)) ops draw x L with
      | some r => some (none, r.1, r.2)
      | none => none
    | .seq c1 c2 =>
      match evC T n false c1 x L with
      | some (none, x', L') => evC T n false c2 x' L'
      | r => r
    | .cond b c1 c2 =>
      if okX b = true then
        match ev x.1 b with
        | .bool v =>
          match (pickB v x.2.2).1 with
          | true => evC T n false c1 (x.1, x.2.1, (pickB v x.2.2).2.1) (Lg.add (pickB v x.2.2).2.2 L)
          | false => evC T n false c2 (x.1, x.2.1, (pickB v x.2.2).2.1) (Lg.add (pickB v x.2.2).2.2 L)
        | _ => none
      else none
    | .block id c =>
      match evC T n false c x L with
      | some (some (some id'), x', L') => if id' = id then some (none, x', L') else some (some (some id'), x', L')
      | r => r
    | .loop c => evC T n true c x L
    | .exit id => some (some (some id), x, L)
    | .ret => some (some none, x, L)
    | .scope c => evC T n false c x L
    | _ => none

def EvOk (T : Tab) (ev : Code → Lf → Lg → Option (Ex × Lf × Lg)) : Prop := ∀ c x L e x' L', ev c x L = some (e, x', L') → L'.ok → L.ok ∧
  ∀ m B a w, Rel m B x a w → ∀ Q : Exit → Act → World → Prop, (∀ a' w', Reach m B x.2.1.n w x' a' w' → Q (out e) a' w') → c.wp T.P Q a w
def RdOk (T : Tab) (r : Nat) (ev : Code → Lf → Lg → Option (Ex × Lf × Lg)) : Prop := ∀ c x L e x' L', ev c x L = some (e, x', L') → L'.ok → L.ok ∧
  ∀ m B a w, Rel m B x a w → ∀ Q : Exit → Act → World → Prop, (∀ a' w', Reach m B x.2.1.n w x' a' w' → Q (out e) a' w') → Code.rounds T.P c Q r a w

theorem callBy_ok {T : Tab} (hT : TabOk T) {evc : Code → Lf → Lg → Option (Ex × Lf × Lg)} (hE : EvOk T evc) : CallOk T (callBy T evc) := by
  intro f vals h s L v h' s' L' hs hL
  unfold callBy at hs
  split at hs
  · cases hs
  · rename_i F hF
    split at hs
    · cases hs
    · rename_i c hc
      obtain ⟨hP, hN⟩ := hT.fn _ _ hF
      have main : ∀ e x, evc c (vals ++ List.replicate (F.ntmps - vals.length) undef, h, s) L = some (e, x, L') → (e = none ∨ e = some none) → resS T.P F x.1 x.2.1 = some v → x.2.1 = h' →
          L.ok ∧ (∃ F, T.P.funcs[f]? = some F ∧ (F.name == "runtime.NumGoroutine") = false ∧ F.body.isSome = true) ∧
          ∀ m B w, Emb m B h w → (∀ v ∈ vals, lt h.n v = true) → Calls T.P f (vals.map (mv m)).toArray w fun e w' => ∃ m', e = .returned (mv m' v) ∧ Came m B h w v h' m' w' := by
        intro e x he hex hres hh
        subst hh
        obtain ⟨h1, h2⟩ := hE _ _ _ _ _ _ he hL
        refine ⟨h1, ⟨F, hP, hN, by simp [hc]⟩, fun m B w E hv => calls_of_wp hP hc ?_⟩
        have R : Rel m B (vals ++ List.replicate (F.ntmps - vals.length) undef, h, s) { tmps := (vals.map (mv m)).toArray ++ Array.replicate (F.ntmps - (vals.map (mv m)).toArray.size) undef, defers := [] } w := by
          refine ⟨?_, rfl, E, ?_⟩
          · simp [mv_undef]
          · intro y hy
            rcases List.mem_append.1 hy with hy | hy
            · exact hv y hy
            · rw [List.eq_of_mem_replicate hy]; simp [undef, lt]
        refine h2 m B _ w R _ fun a' w' hR => ?_
        obtain ⟨m', k1, k2, k3, k4⟩ := hR
        obtain ⟨r1, r2⟩ := resS_run k2.emb k2.wf hres
        rw [← k2.tmps] at r1
        have post : a'.defers = [] ∧ ∃ v', (results F a'.tmps).run T.P w' = .ok v' w' ∧ ∃ m', Ending.returned v' = .returned (mv m' v) ∧ Came m B h w v x.2.1 m' w' :=
          ⟨k2.dfr, _, r1, m', rfl, ⟨k1, k2.emb, k3, k4, r2⟩⟩
        rcases hex with rfl | rfl <;> exact post
      split at hs
      · cases hs
      · rename_i e x L1 hne he
        split at hs
        · rename_i u hu
          cases hs
          refine main e x he ?_ hu rfl
          match e, hne with
          | none, _ => exact .inl rfl
          | some none, _ => exact .inr rfl
          | some (some id), hne => exact absurd rfl (hne id)
        · cases hs
      · cases hs

theorem evC_ok {T : Tab} (hT : TabOk T) : ∀ n, EvOk T (evC T n false) ∧ RdOk T n (evC T n true) := by
  intro n
  induction n with
  | zero => exact ⟨fun c x L e x' L' h => by simp [evC] at h, fun c x L e x' L' h => by simp [evC] at h⟩
  | succ n ih =>
    obtain ⟨ihE, ihR⟩ := ih
    refine ⟨?_, ?_⟩
    · intro c x L e x' L' h hL
      cases c with
      | skip =>
        simp only [evC] at h
        cases h
        exact ⟨hL, fun m B a w R Q hQ => wp_skip (hQ _ _ ⟨m, Agree.refl _ _, R, Below.refl _ _, Nat.le_refl _⟩)⟩
      | label l =>
        simp only [evC] at h
        cases h
        exact ⟨hL, fun m B a w R Q hQ => wp_label (hQ _ _ ⟨m, Agree.refl _ _, R, Below.refl _ _, Nat.le_refl _⟩)⟩
      | region id ops draw =>
        simp only [evC] at h
        split at h
        · rename_i r hr
          cases h
          exact regS_ok (x' := r.1) (L' := r.2) hT (callBy_ok hT ihE) hr hL
        · cases h
      | seq c1 c2 =>
        simp only [evC] at h
        split at h
        · rename_i x1 L1 h1
          obtain ⟨g1, g2⟩ := ihE _ _ _ _ _ _ h hL
          obtain ⟨g3, g4⟩ := ihE _ _ _ _ _ _ h1 g1
          refine ⟨g3, fun m B a w R Q hQ => wp_seq (g4 m B a w R _ fun a' w' hR => ?_)⟩
          obtain ⟨m', k1, k2, k3, k4⟩ := hR
          exact g2 m' B a' w' k2 Q fun a'' w'' hR' => hQ _ _ (Reach.trans k1 k3 k4 hR')
        · rename_i hne
          obtain ⟨g3, g4⟩ := ihE _ _ _ _ _ _ h hL
          refine ⟨g3, fun m B a w R Q hQ => wp_seq (g4 m B a w R _ fun a' w' hR => ?_)⟩
          have := hQ a' w' hR
          match e, h, this with
          | none, h, _ => exact absurd h (hne x' L')
          | some (some id), _, this => exact this
          | some none, _, this => exact this
      | cond b c1 c2 =>
        simp only [evC] at h
        split at h
        · rename_i hb
          split at h
          · rename_i v hv
            split at h
            · rename_i hp
              obtain ⟨g1, g2⟩ := ihE _ _ _ _ _ _ h hL
              obtain ⟨l1, l2⟩ := Lg.add_ok g1
              have e1 := pickB_ok l1
              rw [hp] at e1
              refine ⟨l2, fun m B a w R Q hQ => ?_⟩
              have hev : a.eval b = .bool true := by rw [eval_mv R.tmps hb, hv, ← e1]; rfl
              exact wp_cond_true hev (g2 m B a w ⟨R.tmps, R.dfr, R.emb, R.wf⟩ Q hQ)
            · rename_i hp
              obtain ⟨g1, g2⟩ := ihE _ _ _ _ _ _ h hL
              obtain ⟨l1, l2⟩ := Lg.add_ok g1
              have e1 := pickB_ok l1
              rw [hp] at e1
              refine ⟨l2, fun m B a w R Q hQ => ?_⟩
              have hev : a.eval b = .bool false := by rw [eval_mv R.tmps hb, hv, ← e1]; rfl
              exact wp_cond_false hev (g2 m B a w ⟨R.tmps, R.dfr, R.emb, R.wf⟩ Q hQ)
          · cases h
        · cases h
      | block id c =>
        simp only [evC] at h
        split at h
        · rename_i id' x1 L1 h1
          split at h
          · rename_i hid
            cases h
            obtain ⟨g3, g4⟩ := ihE _ _ _ _ _ _ h1 hL
            refine ⟨g3, fun m B a w R Q hQ => wp_block (g4 m B a w R _ fun a' w' hR => ?_)⟩
            simp only [out, Exit.inBlock, hid, if_true]
            exact hQ a' w' hR
          · rename_i hid
            cases h
            obtain ⟨g3, g4⟩ := ihE _ _ _ _ _ _ h1 hL
            refine ⟨g3, fun m B a w R Q hQ => wp_block (g4 m B a w R _ fun a' w' hR => ?_)⟩
            simp only [out, Exit.inBlock, hid, if_false]
            exact hQ a' w' hR
        · rename_i hne
          obtain ⟨g3, g4⟩ := ihE _ _ _ _ _ _ h hL
          refine ⟨g3, fun m B a w R Q hQ => wp_block (g4 m B a w R _ fun a' w' hR => ?_)⟩
          have := hQ a' w' hR
          match e, h, this with
          | none, _, this => exact this
          | some (some id'), h, _ => exact absurd h (hne id' x' L')
          | some none, _, this => exact this
      | loop c =>
        simp only [evC] at h
        obtain ⟨g1, g2⟩ := ihR _ _ _ _ _ _ h hL
        refine ⟨g1, fun m B a w R Q hQ => ?_⟩
        exact wp_loop_rounds n (g2 m B a w R Q hQ)
      | exit id =>
        simp only [evC] at h
        cases h
        exact ⟨hL, fun m B a w R Q hQ => wp_exit (hQ _ _ ⟨m, Agree.refl _ _, R, Below.refl _ _, Nat.le_refl _⟩)⟩
      | ret =>
        simp only [evC] at h
        cases h
        exact ⟨hL, fun m B a w R Q hQ => wp_ret (hQ _ _ ⟨m, Agree.refl _ _, R, Below.refl _ _, Nat.le_refl _⟩)⟩
      | scope c =>
        simp only [evC] at h
        obtain ⟨g3, g4⟩ := ihE _ _ _ _ _ _ h hL
        refine ⟨g3, fun m B a w R Q hQ => wp_scope_straight (g4 m B a w R _ fun a' w' hR => ?_)⟩
        have := hQ a' w' hR
        match e, this with
        | none, this => exact this
        | some (some id), this => exact this
        | some none, this => exact this
      | rangeFunc f ps as b => simp [evC] at h
      | goto l => simp [evC] at h
      | refuse why => simp [evC] at h
    · intro c x L e x' L' h hL
      simp only [evC] at h
      split at h
      · rename_i x1 L1 h1
        obtain ⟨g1, g2⟩ := ihR _ _ _ _ _ _ h hL
        obtain ⟨g3, g4⟩ := ihE _ _ _ _ _ _ h1 g1
        refine ⟨g3, fun m B a w R Q hQ => ?_⟩
        rw [rounds_succ]
        refine g4 m B a w R _ fun a' w' hR => ?_
        obtain ⟨m', k1, k2, k3, k4⟩ := hR
        exact g2 m' B a' w' k2 Q fun a'' w'' hR' => hQ _ _ (Reach.trans k1 k3 k4 hR')
      · rename_i hne
        obtain ⟨g3, g4⟩ := ihE _ _ _ _ _ _ h hL
        refine ⟨g3, fun m B a w R Q hQ => ?_⟩
        rw [rounds_succ]
        refine g4 m B a w R _ fun a' w' hR => ?_
        have := hQ a' w' hR
        match e, h, this with
        | none, h, _ => exact absurd h (hne x' L')
        | some (some id), _, this => exact this
        | some none, _, this => exact this

/-! ### THE THEOREM -/
/-- The reckoner's answer of a call whose arguments hold no address: fuel 'n', decisions 's' ('[]': it reckons every test). -/
def reckon (T : Tab) (n : Nat) (f : Nat) (vals : List Value) (s : List Dec) : Option (Value × Hp × List Dec × Lg) := callBy T (evC T n false) f vals ⟨0, []⟩ s ⟨[], [], []⟩

theorem reckon_calls {T : Tab} (hT : TabOk T) {n f : Nat} {vals : List Value} {s s' : List Dec} {v : Value} {h' : Hp} {L : Lg} (hs : reckon T n f vals s = some (v, h', s', L)) (hL : L.ok) (hvals : (vals.all (lt 0)) = true) (hv : lt 0 v = true) (w : World) :
    Calls T.P f vals.toArray w fun e w' => e = .returned v ∧ Tidy w w' := by
  obtain ⟨_, _, h3⟩ := callBy_ok hT (evC_ok hT n).1 _ _ _ _ _ _ _ _ _ hs hL
  have E : Emb (fun b => (b, 0)) w.heap.size ⟨0, []⟩ w :=
    Emb.none w
  have hst : ∀ y ∈ vals, lt 0 y = true := List.all_eq_true.1 hvals
  have e : vals.map (mv fun b => (b, 0)) = vals := (List.map_congr_left fun y hy => mv_still (hst y hy)).trans (List.map_id' _)
  have := h3 _ _ w E hst
  rw [e] at this
  refine this.mono fun en w' he => ?_
  obtain ⟨m', rfl, C⟩ := he
  exact ⟨by rw [mv_still hv], C.below, fun k h1 h2 => C.emb.ice k h1 h2⟩

/-- What is to be reckoned of a call: that an answer comes, that it is 'v', that the tests logged are 'cs', and that all else that was logged is so. -/
def Fits (r : Option (Value × Hp × List Dec × Lg)) (v : Value) (cs : Log) : Prop :=
  r.map (fun r => r.1) = some v ∧ r.map (fun r => r.2.2.2.cs) = some cs ∧ r.map (fun r => r.2.2.2.es.map Prod.fst) = r.map (fun r => r.2.2.2.es.map Prod.snd) ∧ r.map (fun r => r.2.2.2.bs.map Prod.fst) = r.map (fun r => r.2.2.2.bs.map Prod.snd)

theorem all_eq {α : Type} : ∀ (l : List (α × α)), l.map Prod.fst = l.map Prod.snd → ∀ x ∈ l, x.1 = x.2
  | [], _, x, hx => by cases hx
  | y :: l, h, x, hx => by
    simp only [List.map_cons, List.cons.injEq] at h
    rcases List.mem_cons.1 hx with rfl | hx
    · exact h.1
    · exact all_eq l h.2 x hx

theorem fits_calls {T : Tab} (hT : TabOk T) {n f : Nat} {vals : List Value} {s : List Dec} {v : Value} {cs : Log} (hF : Fits (reckon T n f vals s) v cs) (hcs : okLog cs) (hvals : (vals.all (lt 0)) = true) (hv : lt 0 v = true) (w : World) :
    Calls T.P f vals.toArray w fun e w' => e = .returned v ∧ Tidy w w' := by
  obtain ⟨h1, h2, h3, h4⟩ := hF
  cases hr : reckon T n f vals s with
  | none => rw [hr] at h1; cases h1
  | some r =>
    rw [hr] at h1 h2 h3 h4
    simp only [Option.map_some, Option.some.injEq] at h1 h2 h3 h4
    obtain ⟨v', h', s', L⟩ := r
    simp only at h1 h2 h3 h4
    subst h1
    exact reckon_calls hT hr ⟨by rw [h2]; exact hcs, all_eq _ h3, all_eq _ h4⟩ hvals hv w
end Go.KRun
