/-
  RunG, RunH, Tab, Num, Con1, Num2, Okl
-/
import Derived.Test.YtjkgnbdeklploaaGreatDoorG08
import Derived.Laws.Externs
import Derived.Test.YtjkgnbdeklploaaGreatDoorProg
import GoSem.Core.Sem
namespace Go.KRun
open Go.RowKit
/-- how code ends: at its end; by a return; by leaving a block -/
abbrev Ex := Option (Option Nat)
def out : Ex → Exit
  | none => .normal
  | some (some id) => .exit id
  | some none => .ret
/-! ### results -/
def resV (P : Program) (t : List Value) (h : Hp) : ResultVar → Option Value
  | .tmp i => some (t.getD i undef)
  | .cell i ty =>
    match t.getD i undef with
    | .pointer (some a) => loadS P ty a h
    | _ => none
def resL (P : Program) (t : List Value) (h : Hp) : List ResultVar → Option (List Value)
  | [] => some []
  | r :: rs =>
    match resV P t h r with
    | some v =>
      match resL P t h rs with
      | some vs => some (v :: vs)
      | none => none
    | none => none
def resS (P : Program) (F : Func) (t : List Value) (h : Hp) : Option Value :=
  match resL P t h F.results.toList with
  | some [v] => some v
  | some vs => if (vs.all noT) = true then some (.tuple vs.toArray) else none
  | none => none
theorem getD_mv {m : Mp} (t : List Value) (i : Nat) : (t.map (mv m)).toArray.getD i undef = mv m (t.getD i undef) := by
  simp only [List.getD]
  cases h : t[i]? with
  | none => simp [h, mv_undef]
  | some v => simp [h]
theorem resL_run {m : Mp} {B : Nat} {P : Program} {t : List Value} {h : Hp} {w : World} (E : Emb m B h w) (ht : ∀ v ∈ t, lt h.n v = true) : ∀ (rs : List ResultVar) (vs : List Value), resL P t h rs = some vs →
    (rs.mapM (m := Sem) fun
      | .tmp i => pure ((t.map (mv m)).toArray.getD i undef)
      | .cell i ty => do loadVar ty (← asAddr ((t.map (mv m)).toArray.getD i undef))).run P w = .ok (vs.map (mv m)) w ∧ ∀ v ∈ vs, lt h.n v = true
  | [], vs, hs => by
    simp only [resL] at hs
    cases hs
    exact ⟨by simp, by simp⟩
  | r :: rs, vs, hs => by
    simp only [resL] at hs
    split at hs
    · rename_i v hv
      split at hs
      · rename_i vs' hvs
        cases hs
        obtain ⟨h1, h2⟩ := resL_run E ht rs vs' hvs
        rw [List.mapM_cons]
        cases r with
        | tmp i =>
          simp only [resV] at hv
          cases hv
          refine ⟨?_, fun y hy => ?_⟩
          · simp only [getD_mv] at h1 ⊢
            simp only [Sem.run_bind, Sem.run_pure, Result.andThen_ok, h1, List.map_cons]
          · rcases List.mem_cons.1 hy with rfl | hy
            · simp only [List.getD]
              cases hh : t[i]? with
              | none => simp [undef, lt]
              | some u => exact ht u (List.mem_of_getElem? hh)
            · exact h2 y hy
        | cell i ty =>
          simp only [resV] at hv
          split at hv
          · rename_i a ha
            obtain ⟨g1, g2⟩ := loadS_run (P := P) E hv
            refine ⟨?_, fun y hy => ?_⟩
            · have e : mv m (Value.pointer (some a)) = .pointer (some (mvA m a)) := rfl
              have g3 : (loadVar ty (mvA m a)).run P w = .ok (mv m v) w := by
                simpa [Instr.loadAt, Instr.sureAddr] using g1
              simp only [getD_mv] at h1 ⊢
              have g4 : (asAddr (.pointer (some (mvA m a)))).run P w = .ok (mvA m a) w := rfl
              simp only [Sem.run_bind, Sem.run_pure, Result.andThen_ok, h1, ha, e, g4, g3, List.map_cons]
            · rcases List.mem_cons.1 hy with rfl | hy
              · exact g2
              · exact h2 y hy
          · cases hv
      · cases hs
    · cases hs
theorem tuple_mv {m : Mp} {vs : List Value} (h : (vs.all noT) = true) : mv m (.tuple vs.toArray) = .tuple (vs.map (mv m)).toArray := by
  simp only [mv, List.map_toArray]
  congr 2
  refine List.map_congr_left fun v hv => ?_
  have := List.all_eq_true.1 h v hv
  cases v <;> simp_all [noT, mv]
theorem resS_run {m : Mp} {B : Nat} {P : Program} {F : Func} {t : List Value} {h : Hp} {w : World} {v : Value} (E : Emb m B h w) (ht : ∀ v ∈ t, lt h.n v = true) (hs : resS P F t h = some v) :
    (results F (t.map (mv m)).toArray).run P w = .ok (mv m v) w ∧ lt h.n v = true := by
  unfold resS at hs
  have key : ∀ vs, resL P t h F.results.toList = some vs → (results F (t.map (mv m)).toArray).run P w = .ok (if hh : (vs.map (mv m)).toArray.size = 1 then (vs.map (mv m)).toArray[0] else .tuple (vs.map (mv m)).toArray) w ∧ ∀ v ∈ vs, lt h.n v = true := by
    intro vs hvs
    obtain ⟨h1, h2⟩ := resL_run E ht F.results.toList vs hvs
    refine ⟨?_, h2⟩
    unfold results
    have e : F.results = F.results.toList.toArray := by simp
    rw [e]
    rw [List.mapM_toArray]
    simp only [Sem.run_bind, Sem.run_map, Sem.run_pure]
    erw [h1]
    rfl
  split at hs
  · rename_i u hu
    cases hs
    obtain ⟨h1, h2⟩ := key _ hu
    exact ⟨by simpa using h1, h2 _ (by simp)⟩
  · rename_i vs hne hu
    split at hs
    · rename_i hall
      cases hs
      obtain ⟨h1, h2⟩ := key _ hu
      have hlen : ¬ (vs.map (mv m)).toArray.size = 1 := by
        intro hl
        simp only [List.size_toArray, List.length_map] at hl
        obtain ⟨u, hu'⟩ := List.length_eq_one_iff.1 hl
        exact hne u hu'
      rw [dif_neg hlen] at h1
      refine ⟨by rw [h1, tuple_mv hall], ?_⟩
      simp only [lt, List.all_eq_true]
      intro y hy
      have h3 := h2 y hy
      have h4 := List.all_eq_true.1 hall y hy
      cases y <;> simp_all [lt, noT]
    · cases hs
  · cases hs
/-! ### code and calls -/
def callBy (T : Tab) (evc : Code → Lf → Lg → Option (Ex × Lf × Lg)) : CallF := fun f vals h s L =>
  match T.fn f with
  | none => none
  | some F =>
    match F.body with
    | none => none
    | some c =>
      match evc c (vals ++ List.replicate (F.ntmps - vals.length) undef, h, s) L with
      | some (some (some _), _, _) => none
      | some (_, x, L') =>
        match resS T.P F x.1 x.2.1 with
        | some v => some (v, x.2.1, x.2.2, L')
        | none => none
      | none => none
def evC (T : Tab) : Nat → Bool → Code → Lf → Lg → Option (Ex × Lf × Lg)
  | 0, _, _, _, _ => none
  | n + 1, true, c, x, L =>
    match evC T n false c x L with
    | some (none, x', L') => evC T n true c x' L'
    | r => r
  | n + 1, false, c, x, L =>
    match c with
    | .skip => some (none, x, L)
    | .label _ => some (none, x, L)
    | .region _ ops draw =>
      match regS T (callBy T (evC T n false)) ops draw x L with
      | some r => some (none, r.1, r.2)
      | none => none
    | .seq c1 c2 =>
      match evC T n false c1 x L with
      | some (none, x', L') => evC T n false c2 x' L'
      | r => r
    | .cond b c1 c2 =>
      if okX b = true then
        match ev x.1 b with
        | .bool v =>
          match (pickB v x.2.2).1 with
          | true => evC T n false c1 (x.1, x.2.1, (pickB v x.2.2).2.1) (Lg.add (pickB v x.2.2).2.2 L)
          | false => evC T n false c2 (x.1, x.2.1, (pickB v x.2.2).2.1) (Lg.add (pickB v x.2.2).2.2 L)
        | _ => none
      else none
    | .block id c =>
      match evC T n false c x L with
      | some (some (some id'), x', L') => if id' = id then some (none, x', L') else some (some (some id'), x', L')
      | r => r
    | .loop c => evC T n true c x L
    | .exit id => some (some (some id), x, L)
    | .ret => some (some none, x, L)
    | .scope c => evC T n false c x L
    | _ => none
def EvOk (T : Tab) (ev : Code → Lf → Lg → Option (Ex × Lf × Lg)) : Prop := ∀ c x L e x' L', ev c x L = some (e, x', L') → L'.ok → L.ok ∧
  ∀ m B a w, Rel m B x a w → ∀ Q : Exit → Act → World → Prop, (∀ a' w', Reach m B x.2.1.n w x' a' w' → Q (out e) a' w') → c.wp T.P Q a w
def RdOk (T : Tab) (r : Nat) (ev : Code → Lf → Lg → Option (Ex × Lf × Lg)) : Prop := ∀ c x L e x' L', ev c x L = some (e, x', L') → L'.ok → L.ok ∧
  ∀ m B a w, Rel m B x a w → ∀ Q : Exit → Act → World → Prop, (∀ a' w', Reach m B x.2.1.n w x' a' w' → Q (out e) a' w') → Code.rounds T.P c Q r a w
theorem callBy_ok {T : Tab} (hT : TabOk T) {evc : Code → Lf → Lg → Option (Ex × Lf × Lg)} (hE : EvOk T evc) : CallOk T (callBy T evc) := by
  intro f vals h s L v h' s' L' hs hL
  unfold callBy at hs
  split at hs
  · cases hs
  · rename_i F hF
    split at hs
    · cases hs
    · rename_i c hc
      obtain ⟨hP, hN⟩ := hT.fn _ _ hF
      have main : ∀ e x, evc c (vals ++ List.replicate (F.ntmps - vals.length) undef, h, s) L = some (e, x, L') → (e = none ∨ e = some none) → resS T.P F x.1 x.2.1 = some v → x.2.1 = h' →
          L.ok ∧ (∃ F, T.P.funcs[f]? = some F ∧ (F.name == "runtime.NumGoroutine") = false ∧ F.body.isSome = true) ∧
          ∀ m B w, Emb m B h w → (∀ v ∈ vals, lt h.n v = true) → Calls T.P f (vals.map (mv m)).toArray w fun e w' => ∃ m', e = .returned (mv m' v) ∧ Came m B h w v h' m' w' := by
        intro e x he hex hres hh
        subst hh
        obtain ⟨h1, h2⟩ := hE _ _ _ _ _ _ he hL
        refine ⟨h1, ⟨F, hP, hN, by simp [hc]⟩, fun m B w E hv => calls_of_wp hP hc ?_⟩
        have R : Rel m B (vals ++ List.replicate (F.ntmps - vals.length) undef, h, s) { tmps := (vals.map (mv m)).toArray ++ Array.replicate (F.ntmps - (vals.map (mv m)).toArray.size) undef, defers := [] } w := by
          refine ⟨?_, rfl, E, ?_⟩
          · simp [mv_undef]
          · intro y hy
            rcases List.mem_append.1 hy with hy | hy
            · exact hv y hy
            · rw [List.eq_of_mem_replicate hy]; simp [undef, lt]
        refine h2 m B _ w R _ fun a' w' hR => ?_
        obtain ⟨m', k1, k2, k3, k4⟩ := hR
        obtain ⟨r1, r2⟩ := resS_run k2.emb k2.wf hres
        rw [← k2.tmps] at r1
        have post : a'.defers = [] ∧ ∃ v', (results F a'.tmps).run T.P w' = .ok v' w' ∧ ∃ m', Ending.returned v' = .returned (mv m' v) ∧ Came m B h w v x.2.1 m' w' :=
          ⟨k2.dfr, _, r1, m', rfl, ⟨k1, k2.emb, k3, k4, r2⟩⟩
        rcases hex with rfl | rfl <;> exact post
      split at hs
      · cases hs
      · rename_i e x L1 hne he
        split at hs
        · rename_i u hu
          cases hs
          refine main e x he ?_ hu rfl
          match e, hne with
          | none, _ => exact .inl rfl
          | some none, _ => exact .inr rfl
          | some (some id), hne => exact absurd rfl (hne id)
        · cases hs
      · cases hs
theorem evC_ok {T : Tab} (hT : TabOk T) : ∀ n, EvOk T (evC T n false) ∧ RdOk T n (evC T n true) := by
  intro n
  induction n with
  | zero => exact ⟨fun c x L e x' L' h => by simp [evC] at h, fun c x L e x' L' h => by simp [evC] at h⟩
  | succ n ih =>
    obtain ⟨ihE, ihR⟩ := ih
    refine ⟨?_, ?_⟩
    · intro c x L e x' L' h hL
      cases c with
      | skip =>
        simp only [evC] at h
        cases h
        exact ⟨hL, fun m B a w R Q hQ => wp_skip (hQ _ _ ⟨m, Agree.refl _ _, R, Below.refl _ _, Nat.le_refl _⟩)⟩
      | label l =>
        simp only [evC] at h
        cases h
        exact ⟨hL, fun m B a w R Q hQ => wp_label (hQ _ _ ⟨m, Agree.refl _ _, R, Below.refl _ _, Nat.le_refl _⟩)⟩
      | region id ops draw =>
        simp only [evC] at h
        split at h
        · rename_i r hr
          cases h
          exact regS_ok (x' := r.1) (L' := r.2) hT (callBy_ok hT ihE) hr hL
        · cases h
      | seq c1 c2 =>
        simp only [evC] at h
        split at h
        · rename_i x1 L1 h1
          obtain ⟨g1, g2⟩ := ihE _ _ _ _ _ _ h hL
          obtain ⟨g3, g4⟩ := ihE _ _ _ _ _ _ h1 g1
          refine ⟨g3, fun m B a w R Q hQ => wp_seq (g4 m B a w R _ fun a' w' hR => ?_)⟩
          obtain ⟨m', k1, k2, k3, k4⟩ := hR
          exact g2 m' B a' w' k2 Q fun a'' w'' hR' => hQ _ _ (Reach.trans k1 k3 k4 hR')
        · rename_i hne
          obtain ⟨g3, g4⟩ := ihE _ _ _ _ _ _ h hL
          refine ⟨g3, fun m B a w R Q hQ => wp_seq (g4 m B a w R _ fun a' w' hR => ?_)⟩
          have := hQ a' w' hR
          match e, h, this with
          | none, h, _ => exact absurd h (hne x' L')
          | some (some id), _, this => exact this
          | some none, _, this => exact this
      | cond b c1 c2 =>
        simp only [evC] at h
        split at h
        · rename_i hb
          split at h
          · rename_i v hv
            split at h
            · rename_i hp
              obtain ⟨g1, g2⟩ := ihE _ _ _ _ _ _ h hL
              obtain ⟨l1, l2⟩ := Lg.add_ok g1
              have e1 := pickB_ok l1
              rw [hp] at e1
              refine ⟨l2, fun m B a w R Q hQ => ?_⟩
              have hev : a.eval b = .bool true := by rw [eval_mv R.tmps hb, hv, ← e1]; rfl
              exact wp_cond_true hev (g2 m B a w ⟨R.tmps, R.dfr, R.emb, R.wf⟩ Q hQ)
            · rename_i hp
              obtain ⟨g1, g2⟩ := ihE _ _ _ _ _ _ h hL
              obtain ⟨l1, l2⟩ := Lg.add_ok g1
              have e1 := pickB_ok l1
              rw [hp] at e1
              refine ⟨l2, fun m B a w R Q hQ => ?_⟩
              have hev : a.eval b = .bool false := by rw [eval_mv R.tmps hb, hv, ← e1]; rfl
              exact wp_cond_false hev (g2 m B a w ⟨R.tmps, R.dfr, R.emb, R.wf⟩ Q hQ)
          · cases h
        · cases h
      | block id c =>
        simp only [evC] at h
        split at h
        · rename_i id' x1 L1 h1
          split at h
          · rename_i hid
            cases h
            obtain ⟨g3, g4⟩ := ihE _ _ _ _ _ _ h1 hL
            refine ⟨g3, fun m B a w R Q hQ => wp_block (g4 m B a w R _ fun a' w' hR => ?_)⟩
            simp only [out, Exit.inBlock, hid, if_true]
            exact hQ a' w' hR
          · rename_i hid
            cases h
            obtain ⟨g3, g4⟩ := ihE _ _ _ _ _ _ h1 hL
            refine ⟨g3, fun m B a w R Q hQ => wp_block (g4 m B a w R _ fun a' w' hR => ?_)⟩
            simp only [out, Exit.inBlock, hid, if_false]
            exact hQ a' w' hR
        · rename_i hne
          obtain ⟨g3, g4⟩ := ihE _ _ _ _ _ _ h hL
          refine ⟨g3, fun m B a w R Q hQ => wp_block (g4 m B a w R _ fun a' w' hR => ?_)⟩
          have := hQ a' w' hR
          match e, h, this with
          | none, _, this => exact this
          | some (some id'), h, _ => exact absurd h (hne id' x' L')
          | some none, _, this => exact this
      | loop c =>
        simp only [evC] at h
        obtain ⟨g1, g2⟩ := ihR _ _ _ _ _ _ h hL
        refine ⟨g1, fun m B a w R Q hQ => ?_⟩
        exact wp_loop_rounds n (g2 m B a w R Q hQ)
      | exit id =>
        simp only [evC] at h
        cases h
        exact ⟨hL, fun m B a w R Q hQ => wp_exit (hQ _ _ ⟨m, Agree.refl _ _, R, Below.refl _ _, Nat.le_refl _⟩)⟩
      | ret =>
        simp only [evC] at h
        cases h
        exact ⟨hL, fun m B a w R Q hQ => wp_ret (hQ _ _ ⟨m, Agree.refl _ _, R, Below.refl _ _, Nat.le_refl _⟩)⟩
      | scope c =>
        simp only [evC] at h
        obtain ⟨g3, g4⟩ := ihE _ _ _ _ _ _ h hL
        refine ⟨g3, fun m B a w R Q hQ => wp_scope_straight (g4 m B a w R _ fun a' w' hR => ?_)⟩
        have := hQ a' w' hR
        match e, this with
        | none, this => exact this
        | some (some id), this => exact this
        | some none, this => exact this
      | rangeFunc f ps ar b => simp [evC] at h
      | goto l => simp [evC] at h
      | refuse why => simp [evC] at h
    · intro c x L e x' L' h hL
      simp only [evC] at h
      split at h
      · rename_i x1 L1 h1
        obtain ⟨g1, g2⟩ := ihR _ _ _ _ _ _ h hL
        obtain ⟨g3, g4⟩ := ihE _ _ _ _ _ _ h1 g1
        refine ⟨g3, fun m B a w R Q hQ => ?_⟩
        rw [rounds_succ]
        refine g4 m B a w R _ fun a' w' hR => ?_
        obtain ⟨m', k1, k2, k3, k4⟩ := hR
        exact g2 m' B a' w' k2 Q fun a'' w'' hR' => hQ _ _ (Reach.trans k1 k3 k4 hR')
      · rename_i hne
        obtain ⟨g3, g4⟩ := ihE _ _ _ _ _ _ h hL
        refine ⟨g3, fun m B a w R Q hQ => ?_⟩
        rw [rounds_succ]
        refine g4 m B a w R _ fun a' w' hR => ?_
        have := hQ a' w' hR
        match e, h, this with
        | none, h, _ => exact absurd h (hne x' L')
        | some (some id), _, this => exact this
        | some none, _, this => exact this
/-! ### THE THEOREM -/
/-- The reckoner's answer of a call whose arguments hold no address: fuel 'n', decisions 's' ('[]': it reckons every test). -/
def reckon (T : Tab) (n : Nat) (f : Nat) (vals : List Value) (s : List Dec) : Option (Value × Hp × List Dec × Lg) := callBy T (evC T n false) f vals ⟨0, []⟩ s ⟨[], [], []⟩
theorem reckon_calls {T : Tab} (hT : TabOk T) {n f : Nat} {vals : List Value} {s s' : List Dec} {v : Value} {h' : Hp} {L : Lg} (hs : reckon T n f vals s = some (v, h', s', L)) (hL : L.ok) (hvals : (vals.all (lt 0)) = true) (hv : lt 0 v = true) (w : World) :
    Calls T.P f vals.toArray w fun e w' => e = .returned v ∧ Tidy w w' := by
  obtain ⟨_, _, h3⟩ := callBy_ok hT (evC_ok hT n).1 _ _ _ _ _ _ _ _ _ hs hL
  have E : Emb (fun b => (b, 0)) w.heap.size ⟨0, []⟩ w :=
    Emb.none w
  have hst : ∀ y ∈ vals, lt 0 y = true := List.all_eq_true.1 hvals
  have e : vals.map (mv fun b => (b, 0)) = vals := (List.map_congr_left fun y hy => mv_still (hst y hy)).trans (List.map_id' _)
  have := h3 _ _ w E hst
  rw [e] at this
  refine this.mono fun en w' he => ?_
  obtain ⟨m', rfl, C⟩ := he
  exact ⟨by rw [mv_still hv], C.below, fun k h1 h2 => C.emb.ice k h1 h2⟩
/-- What is to be reckoned of a call: that an answer comes, that it is 'v', that the tests logged are 'cs', and that all else that was logged is so. -/
def Fits (r : Option (Value × Hp × List Dec × Lg)) (v : Value) (cs : Log) : Prop :=
  r.map (fun r => r.1) = some v ∧ r.map (fun r => r.2.2.2.cs) = some cs ∧ r.map (fun r => r.2.2.2.es.map Prod.fst) = r.map (fun r => r.2.2.2.es.map Prod.snd) ∧ r.map (fun r => r.2.2.2.bs.map Prod.fst) = r.map (fun r => r.2.2.2.bs.map Prod.snd)
theorem all_eq {α : Type} : ∀ (l : List (α × α)), l.map Prod.fst = l.map Prod.snd → ∀ x ∈ l, x.1 = x.2
  | [], _, x, hx => by cases hx
  | y :: l, h, x, hx => by
    simp only [List.map_cons, List.cons.injEq] at h
    rcases List.mem_cons.1 hx with rfl | hx
    · exact h.1
    · exact all_eq l h.2 x hx
theorem fits_calls {T : Tab} (hT : TabOk T) {n f : Nat} {vals : List Value} {s : List Dec} {v : Value} {cs : Log} (hF : Fits (reckon T n f vals s) v cs) (hcs : okLog cs) (hvals : (vals.all (lt 0)) = true) (hv : lt 0 v = true) (w : World) :
    Calls T.P f vals.toArray w fun e w' => e = .returned v ∧ Tidy w w' := by
  obtain ⟨h1, h2, h3, h4⟩ := hF
  cases hr : reckon T n f vals s with
  | none => rw [hr] at h1; cases h1
  | some r =>
    rw [hr] at h1 h2 h3 h4
    simp only [Option.map_some, Option.some.injEq] at h1 h2 h3 h4
    obtain ⟨v', h', s', L⟩ := r
    simp only at h1 h2 h3 h4
    subst h1
    exact reckon_calls hT hr ⟨by rw [h2]; exact hcs, all_eq _ h3, all_eq _ h4⟩ hvals hv w
def addV : List Value → Option (Value × Log)
  | [.int .u64 x, .int .u64 y, .int .u64 c] =>
    some (.tuple #[.int .u64 ((x + y + c) % 18446744073709551616), .int .u64 ((x + y + c) / 18446744073709551616)], [(decide (0 ≤ x ∧ 0 ≤ y ∧ 0 ≤ c ∧ c ≤ 1), true)])
  | _ => none
def subV : List Value → Option (Value × Log)
  | [.int .u64 x, .int .u64 y, .int .u64 c] =>
    some (.tuple #[.int .u64 ((x + 18446744073709551616 - y - c) % 18446744073709551616), .int .u64 (if x < y + c then 1 else 0)], [(decide (0 ≤ x ∧ 0 ≤ y ∧ y < 18446744073709551616 ∧ 0 ≤ c ∧ c ≤ 1), true)])
  | _ => none
theorem addV_run {P : Program} {f : Nat} {F : Func} (hf : P.funcs[f]? = some F) (hn : (F.name == "runtime.NumGoroutine") = false) (hb : F.body.isNone = true) (hx : Extern.findNext F = none) (he : Extern.find F = some add64Entry)
    {vals : List Value} {v : Value} {lg : Log} (h : addV vals = some (v, lg)) (hl : okLog lg) (w : World) : (callFunc f vals.toArray).run P w = .ok (.value v) w := by
  unfold addV at h
  split at h
  · rename_i x y c
    cases h
    have := hl _ (List.mem_singleton.2 rfl)
    simp only [decide_eq_true_eq] at this
    rw [run_callFunc_extern hf hn hb hx he, run_add64 x y c this.1 this.2.1 this.2.2.1 this.2.2.2]
    rfl
  · cases h
theorem sub64_run {P : Program} {e : Array Value → Sem Value} (he : (Extern.MathBitsCarry.rows[1]?).map Prod.snd = some e) (x y c : Int) (hx : 0 ≤ x) (hy : 0 ≤ y) (hy' : y < 18446744073709551616) (hc0 : 0 ≤ c) (hc : c ≤ 1) (w : World) :
    (e #[.int .u64 x, .int .u64 y, .int .u64 c]).run P w = .ok (.tuple #[.int .u64 ((x + 18446744073709551616 - y - c) % 18446744073709551616), .int .u64 (if x < y + c then 1 else 0)]) w := by
  simp only [Extern.MathBitsCarry.rows, List.getElem?_cons_succ, List.getElem?_cons_zero, Option.map_some, Option.some.injEq] at he
  subst he
  have key : ∀ k : Nat, k ≤ 1 → (Extern.MathBitsCarry.three "Sub64" #[.int .u64 x, .int .u64 y, .int .u64 (k : Int)]).run P w = .ok (x.toNat, y.toNat, k) w := by
    intro k hk
    have : k = 0 ∨ k = 1 := by omega
    rcases this with rfl | rfl <;> rfl
  obtain ⟨k, rfl⟩ := Int.eq_ofNat_of_zero_le hc0
  rw [Sem.run_bind, key k (by omega)]
  simp only [Result.andThen_ok, Sem.run_pure]
  obtain ⟨X, rfl⟩ := Int.eq_ofNat_of_zero_le hx
  obtain ⟨Y, rfl⟩ := Int.eq_ofNat_of_zero_le hy
  have e1 : Int.ofNat (((X + Extern.MathBitsCarry.m64 - Y - k) % Extern.MathBitsCarry.m64)) = ((X : Int) + 18446744073709551616 - Y - k) % 18446744073709551616 := by
    simp only [Extern.MathBitsCarry.m64, Int.ofNat_eq_natCast]
    omega
  have e2 : Int.ofNat (if X < Y + k then 1 else 0) = (if (X : Int) < Y + k then 1 else 0) := by
    by_cases h : X < Y + k
    · rw [if_pos h, if_pos (by omega)]; rfl
    · rw [if_neg h, if_neg (by omega)]; rfl
  simp only [Extern.MathBitsCarry.pair, Int.toNat_natCast, e1, e2]
theorem subV_run {P : Program} {f : Nat} {F : Func} {e : Array Value → Sem Value} (hf : P.funcs[f]? = some F) (hn : (F.name == "runtime.NumGoroutine") = false) (hb : F.body.isNone = true) (hx : Extern.findNext F = none) (he : Extern.find F = some e)
    (he' : (Extern.MathBitsCarry.rows[1]?).map Prod.snd = some e) {vals : List Value} {v : Value} {lg : Log} (h : subV vals = some (v, lg)) (hl : okLog lg) (w : World) : (callFunc f vals.toArray).run P w = .ok (.value v) w := by
  unfold subV at h
  split at h
  · rename_i x y c
    cases h
    have := hl _ (List.mem_singleton.2 rfl)
    simp only [decide_eq_true_eq] at this
    rw [run_callFunc_extern hf hn hb hx he, sub64_run he' x y c this.1 this.2.1 this.2.2.1 this.2.2.2.1 this.2.2.2.2]
    rfl
  · cases h
end Go.KRun
namespace Go.Proofs.YtjkgnbdeklploaaGreatDoor
open Go.KRun
theorem names : (Tryz.prog.funcs.toList.all fun F => !(F.name == "runtime.NumGoroutine")) = true := by kernel_rfl
theorem fns_ok (f : Nat) (F : Func) (h : Tryz.prog.funcs[f]? = some F) : Tryz.prog.funcs[f]? = some F ∧ (F.name == "runtime.NumGoroutine") = false :=
  ⟨h, by simpa using List.all_eq_true.1 names F (by simpa using Array.mem_of_getElem? h)⟩
def extY : Nat → List Value → Option (Value × Log) := fun f vals => if f = 156 then addV vals else if f = 157 then subV vals else none
theorem add_ext {vals : List Value} {v : Value} {lg : Log} (h : addV vals = some (v, lg)) (hl : okLog lg) (w : World) : (callFunc 156 vals.toArray).run Tryz.prog w = .ok (.value v) w :=
  addV_run Tryz.func156 (by kernel_rfl) (by kernel_rfl) (by kernel_rfl) (by kernel_rfl) h hl w
theorem sub_ext {vals : List Value} {v : Value} {lg : Log} (h : subV vals = some (v, lg)) (hl : okLog lg) (w : World) : (callFunc 157 vals.toArray).run Tryz.prog w = .ok (.value v) w :=
  subV_run (e := (Extern.MathBitsCarry.rows[1]).2) Tryz.func157 (by kernel_rfl) (by kernel_rfl) (by kernel_rfl) (by kernel_rfl) (by rfl) h hl w
theorem extY_ok (f : Nat) (vals : List Value) (v : Value) (lg : Log) (h : extY f vals = some (v, lg)) (hl : okLog lg) (w : World) : (callFunc f vals.toArray).run Tryz.prog w = .ok (.value v) w := by
  unfold extY at h
  split at h
  · rename_i hf; subst hf; exact add_ext h hl w
  · split at h
    · rename_i hf; subst hf; exact sub_ext h hl w
    · cases h
/-- what is known of calls -/
abbrev Con := Nat → List Value → List Dec → Option (Value × List Dec × Log)
structure ConOk (con : Con) : Prop where
  fn : ∀ f vals s v s' lg, con f vals s = some (v, s', lg) → ∃ F, Tryz.prog.funcs[f]? = some F ∧ F.body.isSome = true
  calls : ∀ f vals s v s' lg, con f vals s = some (v, s', lg) → okLog lg → ∀ w, Calls Tryz.prog f vals.toArray w fun e w' => e = .returned v ∧ Tidy w w'
def conN : Con := fun _ _ _ => none
theorem conN_ok : ConOk conN where
  fn := fun _ _ _ _ _ _ h => by simp [conN] at h
  calls := fun _ _ _ _ _ _ h => by simp [conN] at h
/-- the table of a program: 'sym': numbers may be letters -/
def tabOf (P : Program) (ext : Nat → List Value → Option (Value × Log)) (con : Con) (sym : Bool) : Tab := { P := P, fn := fun f => P.funcs[f]?, ext := ext, con := con, sym := sym }
theorem mixed : Tryz.prog.follows .mixedOrders = true := by kernel_rfl
theorem tabY_ok {con : Con} (h : ConOk con) : TabOk (tabOf Tryz.prog extY con true) where
  mixed := mixed
  ext := extY_ok
  con := fun f vals s v s' lg hc hl => ⟨by obtain ⟨F, h1, h2⟩ := h.fn f vals s v s' lg hc; exact ⟨F, (fns_ok f F h1).1, (fns_ok f F h1).2, h2⟩, h.calls f vals s v s' lg hc hl⟩
  fn := fns_ok
  hc := fun _ _ _ _ _ _ _ _ h => by cases h
abbrev Ans := List Value → List Dec → Option (Value × List Dec × Log)
def AnsOk (f : Nat) (g : Ans) : Prop := ∀ vals s v s' lg, g vals s = some (v, s', lg) → okLog lg → ∀ w, Calls Tryz.prog f vals.toArray w fun e w' => e = .returned v ∧ Tidy w w'
def alt (f : Nat) (g : Ans) (rest : Con) : Con := fun f' vals s => if f' = f then g vals s else rest f' vals s
theorem alt_ok {f : Nat} {g : Ans} {rest : Con} {F : Func} (hf : Tryz.prog.funcs[f]? = some F) (hb : F.body.isSome = true) (hg : AnsOk f g) (hr : ConOk rest) : ConOk (alt f g rest) where
  fn := fun f' vals s v s' lg h => by
    unfold alt at h
    split at h
    · rename_i he; subst he; exact ⟨F, hf, hb⟩
    · exact hr.fn _ _ _ _ _ _ h
  calls := fun f' vals s v s' lg h hl w => by
    unfold alt at h
    split at h
    · rename_i he; subst he; exact hg _ _ _ _ _ h hl w
    · exact hr.calls _ _ _ _ _ _ h hl w
end Go.Proofs.YtjkgnbdeklploaaGreatDoor
namespace Go.Wd
structure W4 where
  a : Int
  b : Int
  c : Int
  d : Int
def W4.val (x : W4) : Int := x.a + 18446744073709551616 * x.b + 340282366920938463463374607431768211456 * x.c + 6277101735386680763835789423207666416102355444464034512896 * x.d
abbrev W4.ok (x : W4) : Prop := (0 ≤ x.a ∧ x.a < 18446744073709551616) ∧ (0 ≤ x.b ∧ x.b < 18446744073709551616) ∧ (0 ≤ x.c ∧ x.c < 18446744073709551616) ∧ (0 ≤ x.d ∧ x.d < 18446744073709551616)
/-- the lowest 256 bits of a number -/
def W4.of (n : Int) : W4 :=
  ⟨n % 18446744073709551616, n / 18446744073709551616 % 18446744073709551616, n / 340282366920938463463374607431768211456 % 18446744073709551616, n / 6277101735386680763835789423207666416102355444464034512896 % 18446744073709551616⟩
def eqW (x y : W4) : Bool := x.a == y.a && (x.b == y.b && (x.c == y.c && (x.d == y.d && true)))
theorem eqW_iff {x y : W4} : eqW x y = true ↔ x = y := by
  cases x; cases y; simp [eqW]
theorem W4.ext' {x y : W4} (h1 : x.a = y.a) (h2 : x.b = y.b) (h3 : x.c = y.c) (h4 : x.d = y.d) : x = y := by
  cases x; cases y; simp_all
theorem W4.ok_of (n : Int) : (W4.of n).ok := by
  unfold W4.of W4.ok
  refine ⟨⟨?_, ?_⟩, ⟨?_, ?_⟩, ⟨?_, ?_⟩, ⟨?_, ?_⟩⟩ <;> dsimp only <;> omega
theorem W4.of_val {x : W4} (h : x.ok) : W4.of x.val = x := by
  obtain ⟨a, b, c, d⟩ := x
  unfold W4.ok at h
  unfold W4.val W4.of
  dsimp only at *
  refine W4.ext' ?_ ?_ ?_ ?_ <;> dsimp only <;> omega
theorem W4.val_of (n : Int) : (W4.of n).val = n % 115792089237316195423570985008687907853269984665640564039457584007913129639936 := by
  unfold W4.val W4.of
  dsimp only
  omega
theorem W4.val_bd {x : W4} (h : x.ok) : 0 ≤ x.val ∧ x.val < 115792089237316195423570985008687907853269984665640564039457584007913129639936 := by
  obtain ⟨a, b, c, d⟩ := x
  unfold W4.ok at h
  unfold W4.val
  dsimp only at *
  omega
theorem W4.val_inj {x y : W4} (hx : x.ok) (hy : y.ok) (h : x.val = y.val) : x = y := by
  rw [← W4.of_val hx, ← W4.of_val hy, h]
/-! ### a sum -/
def ad (x y c : Int) : Int := (x + y + c) % 18446744073709551616
def ca (x y c : Int) : Int := (x + y + c) / 18446744073709551616
def addR (x y : W4) : W4 := ⟨ad x.a y.a 0, ad x.b y.b (ca x.a y.a 0), ad x.c y.c (ca x.b y.b (ca x.a y.a 0)), ad x.d y.d (ca x.c y.c (ca x.b y.b (ca x.a y.a 0)))⟩
def addC (x y : W4) : Int := ca x.d y.d (ca x.c y.c (ca x.b y.b (ca x.a y.a 0)))
theorem addR_eq {x y : W4} (hx : x.ok) (hy : y.ok) : addR x y = W4.of (x.val + y.val) := by
  obtain ⟨a, b, c, d⟩ := x
  obtain ⟨a', b', c', d'⟩ := y
  unfold W4.ok at hx hy
  unfold W4.val W4.of addR ad ca
  dsimp only at *
  refine W4.ext' ?_ ?_ ?_ ?_ <;> dsimp only <;> omega
theorem addC_eq {x y : W4} (hx : x.ok) (hy : y.ok) : (addC x y != 0) = decide (115792089237316195423570985008687907853269984665640564039457584007913129639936 ≤ x.val + y.val) := by
  obtain ⟨a, b, c, d⟩ := x
  obtain ⟨a', b', c', d'⟩ := y
  unfold W4.ok at hx hy
  unfold W4.val addC ca
  dsimp only at *
  rw [Bool.eq_iff_iff]
  simp only [bne_iff_ne, ne_eq, decide_eq_true_eq]
  omega
/-! ### a difference -/
def sb (x y c : Int) : Int := (x + 18446744073709551616 - y - c) % 18446744073709551616
def bo (x y c : Int) : Int := if x < y + c then 1 else 0
def subR (x y : W4) : W4 := ⟨sb x.a y.a 0, sb x.b y.b (bo x.a y.a 0), sb x.c y.c (bo x.b y.b (bo x.a y.a 0)), sb x.d y.d (bo x.c y.c (bo x.b y.b (bo x.a y.a 0)))⟩
def subC (x y : W4) : Int := bo x.d y.d (bo x.c y.c (bo x.b y.b (bo x.a y.a 0)))
theorem bo_01 (x y c : Int) : bo x y c = 0 ∨ bo x y c = 1 := by unfold bo; split <;> simp
theorem bo_spec (x y c : Int) : (bo x y c = 1 ∧ x < y + c) ∨ (bo x y c = 0 ∧ y + c ≤ x) := by unfold bo; split <;> omega
theorem subR_eq {x y : W4} (hx : x.ok) (hy : y.ok) : subR x y = W4.of (x.val - y.val) := by
  obtain ⟨a, b, c, d⟩ := x
  obtain ⟨a', b', c', d'⟩ := y
  unfold W4.ok at hx hy
  unfold W4.val W4.of subR sb
  dsimp only at *
  have h1 := bo_spec a a' 0
  have h2 := bo_spec b b' (bo a a' 0)
  have h3 := bo_spec c c' (bo b b' (bo a a' 0))
  generalize bo c c' (bo b b' (bo a a' 0)) = k3 at *
  generalize bo b b' (bo a a' 0) = k2 at *
  generalize bo a a' 0 = k1 at *
  refine W4.ext' ?_ ?_ ?_ ?_ <;> dsimp only <;> omega
theorem subC_eq {x y : W4} (hx : x.ok) (hy : y.ok) : (subC x y != 0) = decide (x.val < y.val) := by
  obtain ⟨a, b, c, d⟩ := x
  obtain ⟨a', b', c', d'⟩ := y
  unfold W4.ok at hx hy
  unfold W4.val subC
  dsimp only at *
  have h1 := bo_spec a a' 0
  have h2 := bo_spec b b' (bo a a' 0)
  have h3 := bo_spec c c' (bo b b' (bo a a' 0))
  have h4 := bo_spec d d' (bo c c' (bo b b' (bo a a' 0)))
  generalize bo d d' (bo c c' (bo b b' (bo a a' 0))) = k4 at *
  generalize bo c c' (bo b b' (bo a a' 0)) = k3 at *
  generalize bo b b' (bo a a' 0) = k2 at *
  generalize bo a a' 0 = k1 at *
  rw [Bool.eq_iff_iff]
  simp only [bne_iff_ne, ne_eq, decide_eq_true_eq]
  omega
end Go.Wd
namespace Go.Proofs.YtjkgnbdeklploaaGreatDoor
open Go.KRun Go.Wd
def vW (x : W4) : Value := .agg #[.int .u64 x.a, .int .u64 x.b, .int .u64 x.c, .int .u64 x.d]
def w4 : Value → Option W4
  | .agg cs =>
    match cs.toList with
    | [.int .u64 a, .int .u64 b, .int .u64 c, .int .u64 d] => some ⟨a, b, c, d⟩
    | _ => none
  | _ => none
theorem w4_spec {v : Value} {x : W4} (h : w4 v = some x) : v = vW x := by
  unfold w4 at h
  split at h
  · rename_i cs
    split at h
    · rename_i a b c d hc
      cases h
      obtain ⟨l⟩ := cs
      simp only at hc
      subst hc
      rfl
    · cases h
  · cases h
/-- of two numbers -/
def g2 (k : W4 → W4 → List Dec → Option (Value × List Dec × Log)) : Ans := fun vals s =>
  match vals with
  | [x, y] =>
    match w4 x, w4 y with
    | some a, some b =>
      match k a b s with
      | some r => some (r.1, r.2.1, (decide (a.ok ∧ b.ok), true) :: r.2.2)
      | none => none
    | _, _ => none
  | _ => none
theorem g2_ok {f : Nat} {k : W4 → W4 → List Dec → Option (Value × List Dec × Log)}
    (hk : ∀ x y : W4, x.ok → y.ok → ∀ s v s' lg, k x y s = some (v, s', lg) → okLog lg → ∀ w, Calls Tryz.prog f #[vW x, vW y] w fun e w' => e = .returned v ∧ Tidy w w') : AnsOk f (g2 k) := by
  intro vals s v s' lg h hl w
  unfold g2 at h
  split at h
  · split at h
    · rename_i a b ha hb
      split at h
      · rename_i r hr
        cases h
        have h1 := hl _ (List.mem_cons_self)
        simp only [decide_eq_true_eq] at h1
        rw [w4_spec ha, w4_spec hb]
        exact hk a b h1.1 h1.2 s r.1 r.2.1 r.2.2 hr (fun p hp => hl p (List.mem_cons_of_mem _ hp)) w
      · cases h
    · cases h
  · cases h
/-- an answer that is told outright -/
def plain2 (k : W4 → W4 → Value) : W4 → W4 → List Dec → Option (Value × List Dec × Log) := fun x y s => some (k x y, s, [])
theorem plain2_ok {f : Nat} {k : W4 → W4 → Value} (hk : ∀ x y : W4, x.ok → y.ok → ∀ w, Calls Tryz.prog f #[vW x, vW y] w fun e w' => e = .returned (k x y) ∧ Tidy w w') : AnsOk f (g2 (plain2 k)) :=
  g2_ok fun x y hx hy s v s' lg h _ w => by
    unfold plain2 at h
    cases h
    exact hk x y hx hy w
/-- a number that is decided ahead -/
def pickN (n : Int) : List Dec → Int × List Dec × Log
  | .inr (.inl k) :: s => (k, s, [(decide (n = k), true)])
  | s => (n, s, [])
theorem pickN_ok {n : Int} {s : List Dec} (h : okLog (pickN n s).2.2) : (pickN n s).1 = n := by
  unfold pickN at *
  split at h
  · rename_i d s
    have := h _ (List.mem_singleton.2 rfl)
    simp only [decide_eq_true_eq] at this
    exact this.symm
  · rfl
theorem okNil : okLog [] := fun _ h => by cases h
/-! ### Add -/
def okA (x y c : Int) : Bool × Bool := (decide (0 ≤ x ∧ 0 ≤ y ∧ 0 ≤ c ∧ c ≤ 1), true)
theorem add_fits (x y : W4) : Fits (reckon (tabOf Tryz.prog extY conN true) 3000 143 [vW x, vW y] []) (.tuple #[vW (addR x y), .bool (addC x y != 0)])
    [okA x.d y.d (ca x.c y.c (ca x.b y.b (ca x.a y.a 0))), okA x.c y.c (ca x.b y.b (ca x.a y.a 0)), okA x.b y.b (ca x.a y.a 0), okA x.a y.a 0] := ⟨by kernel_rfl, by kernel_rfl, by kernel_rfl, by kernel_rfl⟩
def addV4 (x y : W4) : Value := .tuple #[vW (W4.of (x.val + y.val)), .bool (decide (115792089237316195423570985008687907853269984665640564039457584007913129639936 ≤ x.val + y.val))]
theorem add_calls (x y : W4) (hx : x.ok) (hy : y.ok) (w : World) : Calls Tryz.prog 143 #[vW x, vW y] w fun e w' => e = .returned (addV4 x y) ∧ Tidy w w' := by
  have h := fits_calls (tabY_ok conN_ok) (add_fits x y) (by
    obtain ⟨h1, h2, h3, h4⟩ := hx
    obtain ⟨k1, k2, k3, k4⟩ := hy
    have b1 : 0 ≤ ca x.a y.a 0 ∧ ca x.a y.a 0 ≤ 1 := by unfold ca; omega
    have b2 : 0 ≤ ca x.b y.b (ca x.a y.a 0) ∧ ca x.b y.b (ca x.a y.a 0) ≤ 1 := by generalize ca x.a y.a 0 = k at *; unfold ca; omega
    have b3 : 0 ≤ ca x.c y.c (ca x.b y.b (ca x.a y.a 0)) ∧ ca x.c y.c (ca x.b y.b (ca x.a y.a 0)) ≤ 1 := by generalize ca x.b y.b (ca x.a y.a 0) = k at *; unfold ca; omega
    intro p hp
    simp only [List.mem_cons, List.not_mem_nil, or_false] at hp
    rcases hp with rfl | rfl | rfl | rfl <;> simp only [okA, decide_eq_true_eq] <;> omega) (by rfl) (by rfl) w
  rw [addR_eq hx hy, addC_eq hx hy] at h
  exact h
/-! ### Sub -/
def okS (x y c : Int) : Bool × Bool := (decide (0 ≤ x ∧ 0 ≤ y ∧ y < 18446744073709551616 ∧ 0 ≤ c ∧ c ≤ 1), true)
theorem sub_fits (x y : W4) : Fits (reckon (tabOf Tryz.prog extY conN true) 3000 144 [vW x, vW y] []) (.tuple #[vW (subR x y), .bool (subC x y != 0)])
    [okS x.d y.d (bo x.c y.c (bo x.b y.b (bo x.a y.a 0))), okS x.c y.c (bo x.b y.b (bo x.a y.a 0)), okS x.b y.b (bo x.a y.a 0), okS x.a y.a 0] := ⟨by kernel_rfl, by kernel_rfl, by kernel_rfl, by kernel_rfl⟩
def subV4 (x y : W4) : Value := .tuple #[vW (W4.of (x.val - y.val)), .bool (decide (x.val < y.val))]
theorem sub_calls (x y : W4) (hx : x.ok) (hy : y.ok) (w : World) : Calls Tryz.prog 144 #[vW x, vW y] w fun e w' => e = .returned (subV4 x y) ∧ Tidy w w' := by
  have h := fits_calls (tabY_ok conN_ok) (sub_fits x y) (by
    obtain ⟨h1, h2, h3, h4⟩ := hx
    obtain ⟨k1, k2, k3, k4⟩ := hy
    have b1 := bo_01 x.a y.a 0
    have b2 := bo_01 x.b y.b (bo x.a y.a 0)
    have b3 := bo_01 x.c y.c (bo x.b y.b (bo x.a y.a 0))
    intro p hp
    simp only [List.mem_cons, List.not_mem_nil, or_false] at hp
    rcases hp with rfl | rfl | rfl | rfl <;> simp only [okS, decide_eq_true_eq] <;> omega) (by rfl) (by rfl) w
  rw [subR_eq hx hy, subC_eq hx hy] at h
  exact h
/-! ### Cmp -/
def conS : Con := alt 144 (g2 (plain2 subV4)) conN
theorem conS_ok : ConOk conS := alt_ok Tryz.func144 rfl (plain2_ok sub_calls) conN_ok
/-- whether it is below 0 is decided ahead -/
def subB : W4 → W4 → List Dec → Option (Value × List Dec × Log) := fun x y s => some (.tuple #[vW (W4.of (x.val - y.val)), .bool (pickB (decide (x.val < y.val)) s).1], (pickB (decide (x.val < y.val)) s).2.1, (pickB (decide (x.val < y.val)) s).2.2)
theorem subB_ok : AnsOk 144 (g2 subB) := g2_ok fun x y hx hy s v s' lg h hl w => by
  unfold subB at h
  cases h
  rw [pickB_ok hl]
  exact sub_calls x y hx hy w
theorem cmp_same (x y : W4) : Fits (reckon (tabOf Tryz.prog extY conS true) 3000 119 [vW x, vW y] [tst true]) (.int .i64 0) [(eqW x y, true)] := ⟨by kernel_rfl, by kernel_rfl, by kernel_rfl, by kernel_rfl⟩
theorem cmp_less (x y : W4) : Fits (reckon (tabOf Tryz.prog extY conS true) 3000 119 [vW x, vW y] [tst false, tst true]) (.int .i64 (-1)) [(decide (x.val < y.val), true), (decide (x.ok ∧ y.ok), true), (eqW x y, false)] := ⟨by kernel_rfl, by kernel_rfl, by kernel_rfl, by kernel_rfl⟩
theorem cmp_more (x y : W4) : Fits (reckon (tabOf Tryz.prog extY conS true) 3000 119 [vW x, vW y] [tst false, tst false]) (.int .i64 1) [(decide (x.val < y.val), false), (decide (x.ok ∧ y.ok), true), (eqW x y, false)] := ⟨by kernel_rfl, by kernel_rfl, by kernel_rfl, by kernel_rfl⟩
def cmpI (x y : W4) : Int := if x.val < y.val then -1 else if x.val = y.val then 0 else 1
def cmpV4 (x y : W4) : Value := .int .i64 (cmpI x y)
theorem cmp_calls (x y : W4) (hx : x.ok) (hy : y.ok) (w : World) : Calls Tryz.prog 119 #[vW x, vW y] w fun e w' => e = .returned (cmpV4 x y) ∧ Tidy w w' := by
  by_cases he : x = y
  · subst he
    have h := fits_calls (tabY_ok conS_ok) (cmp_same x x) (by
      intro p hp
      simp only [List.mem_cons, List.not_mem_nil, or_false] at hp
      subst hp
      exact eqW_iff.2 rfl) (by rfl) (by rfl) w
    have e : cmpI x x = 0 := by unfold cmpI; rw [if_neg (by omega), if_pos rfl]
    unfold cmpV4
    rw [e]
    exact h
  · have hne : eqW x y = false := by
      cases h : eqW x y
      · rfl
      · exact absurd (eqW_iff.1 h) he
    by_cases hl : x.val < y.val
    · have h := fits_calls (tabY_ok conS_ok) (cmp_less x y) (by
        intro p hp
        simp only [List.mem_cons, List.not_mem_nil, or_false] at hp
        rcases hp with rfl | rfl | rfl
        · simpa using hl
        · simpa using ⟨hx, hy⟩
        · exact hne) (by rfl) (by rfl) w
      have e : cmpI x y = -1 := by unfold cmpI; rw [if_pos hl]
      unfold cmpV4
      rw [e]
      exact h
    · have h := fits_calls (tabY_ok conS_ok) (cmp_more x y) (by
        intro p hp
        simp only [List.mem_cons, List.not_mem_nil, or_false] at hp
        rcases hp with rfl | rfl | rfl
        · simpa using hl
        · simpa using ⟨hx, hy⟩
        · exact hne) (by rfl) (by rfl) w
      have hne' : x.val ≠ y.val := fun h => he (W4.val_inj hx hy h)
      have e : cmpI x y = 1 := by unfold cmpI; rw [if_neg hl, if_neg hne']
      unfold cmpV4
      rw [e]
      exact h
def cmpN : W4 → W4 → List Dec → Option (Value × List Dec × Log) := fun x y s => some (.int .i64 (pickN (cmpI x y) s).1, (pickN (cmpI x y) s).2.1, (pickN (cmpI x y) s).2.2)
theorem cmpN_ok : AnsOk 119 (g2 cmpN) := g2_ok fun x y hx hy s v s' lg h hl w => by
  unfold cmpN at h
  cases h
  rw [pickN_ok hl]
  exact cmp_calls x y hx hy w
end Go.Proofs.YtjkgnbdeklploaaGreatDoor
namespace Go.Wd
theorem wrap_u64 (n : Int) : IntKind.u64.wrap n = n % 18446744073709551616 := by simp [IntKind.wrap, IntKind.bits, IntKind.signed]
theorem wrap_u64' {n : Int} (h0 : 0 ≤ n) (h1 : n < 18446744073709551616) : IntKind.u64.wrap n = n := by rw [wrap_u64]; omega
theorem wrap_i64' {n : Int} (h0 : -9223372036854775808 ≤ n) (h1 : n ≤ 9223372036854775807) : IntKind.i64.wrap n = n := by
  simp [IntKind.wrap, IntKind.bits, IntKind.signed]; omega
def prt (n : Int) : Int := IntKind.u64.wrap (n.tmod 64)
def rem (n : Int) : Int := IntKind.u64.wrap (64 - prt n)
def up (a n : Int) : Int := IntKind.u64.wrap (a * 2 ^ min (prt n).toNat 64)
def dn (a n : Int) : Int := a.fdiv (2 ^ min (rem n).toNat 64)
/-- down by the part, up by what is left of a word -/
def dn' (a n : Int) : Int := a.fdiv (2 ^ min (prt n).toNat 64)
def up' (a n : Int) : Int := IntKind.u64.wrap (a * 2 ^ min (rem n).toNat 64)
def orr (x y : Int) : Int := IntKind.u64.wrap ((BitVec.ofInt 64 x ||| BitVec.ofInt 64 y).toNat : Nat)
theorem prt_eq {n : Int} (h : 0 ≤ n) : prt n = n % 64 := by
  unfold prt
  rw [Int.tmod_eq_emod_of_nonneg h, wrap_u64]
  omega
theorem rem_eq {n : Int} (h : 0 ≤ n) : rem n = 64 - n % 64 := by
  unfold rem
  rw [prt_eq h, wrap_u64]
  omega
/-- q = 2^p, r = 2^(64-p) -/
structure Parts (n q r : Int) : Prop where
  q1 : 1 ≤ q
  r1 : 1 < r
  qr : q * r = 18446744073709551616
  eq : q = 2 ^ (n % 64).toNat
  er : r = 2 ^ (64 - n % 64).toNat
theorem parts (n : Int) : Parts n (2 ^ (n % 64).toNat) (2 ^ (64 - n % 64).toNat) := by
  have h1 : 0 ≤ n % 64 := by omega
  have h2 : n % 64 < 64 := by omega
  refine ⟨?_, ?_, ?_, rfl, rfl⟩
  · have : (0 : Int) < 2 ^ (n % 64).toNat := Int.pow_pos (by omega)
    omega
  · obtain ⟨k, hk⟩ : ∃ k, (64 - n % 64).toNat = k + 1 := ⟨(64 - n % 64).toNat - 1, by omega⟩
    rw [hk, Int.pow_succ]
    have : (0 : Int) < 2 ^ k := Int.pow_pos (by omega)
    omega
  · rw [← Int.pow_add]
    have : (n % 64).toNat + (64 - n % 64).toNat = 64 := by omega
    rw [this]
    rfl
theorem min_prt {n : Int} (h : 0 ≤ n) : min (prt n).toNat 64 = (n % 64).toNat := by rw [prt_eq h]; omega
theorem min_rem {n : Int} (h : 0 ≤ n) : min (rem n).toNat 64 = (64 - n % 64).toNat := by rw [rem_eq h]; omega
/-- a = r * hi + lo: up: lo * q; down: hi -/
structure Cut (a q r hi lo : Int) : Prop where
  sum : a = r * hi + lo
  lo0 : 0 ≤ lo
  lo1 : lo < r
  hi0 : 0 ≤ hi
  hi1 : hi < q
theorem cut {a n q r : Int} (P : Parts n q r) (h0 : 0 ≤ a) (h1 : a < 18446744073709551616) : Cut a q r (a / r) (a % r) := by
  have hr : 0 < r := by have := P.r1; omega
  refine ⟨(Int.mul_ediv_add_emod a r).symm, Int.emod_nonneg _ (by omega), Int.emod_lt_of_pos _ hr, Int.ediv_nonneg h0 (by omega), ?_⟩
  apply Int.ediv_lt_of_lt_mul hr
  rw [P.qr]
  exact h1
theorem mul_le_of (x y c : Int) (hc : 0 ≤ c) (h : x ≤ y) : c * x ≤ c * y := Int.mul_le_mul_of_nonneg_left h hc
theorem up_eq {a n q r hi lo : Int} (hn : 0 ≤ n) (P : Parts n q r) (C : Cut a q r hi lo) : up a n = q * lo ∧ 0 ≤ q * lo ∧ q * lo + q ≤ 18446744073709551616 ∧ a * q = 18446744073709551616 * hi + q * lo := by
  have e : a * q = 18446744073709551616 * hi + q * lo := by
    rw [C.sum, Int.add_mul, ← P.qr, Int.mul_comm r hi, Int.mul_assoc hi r q, Int.mul_comm r q, Int.mul_comm hi (q * r), Int.mul_comm lo q]
  have b0 : 0 ≤ q * lo := Int.mul_nonneg (by have := P.q1; omega) C.lo0
  have b1 : q * lo + q ≤ 18446744073709551616 := by
    have h := mul_le_of (lo + 1) r q (by have := P.q1; omega) (by have := C.lo1; omega)
    rw [P.qr, Int.mul_add, Int.mul_one] at h
    exact h
  refine ⟨?_, b0, b1, e⟩
  unfold up
  rw [min_prt hn, ← P.eq, wrap_u64, e]
  have := P.q1
  omega
theorem dn_eq {a n q r hi lo : Int} (hn : 0 ≤ n) (P : Parts n q r) (C : Cut a q r hi lo) : dn a n = hi := by
  unfold dn
  rw [min_rem hn, ← P.er, Int.fdiv_eq_ediv_of_nonneg _ (by have := P.r1; omega), C.sum, Int.mul_comm r hi, Int.add_comm, Int.add_mul_ediv_right _ _ (by have := P.r1; omega),
    Int.ediv_eq_zero_of_lt C.lo0 C.lo1, Int.zero_add]
/-- bits that do not meet: 'or' is '+' -/
theorem orr_eq {k : Nat} {x y : Int} (hx : ∃ z : Int, x = 2 ^ k * z) (x0 : 0 ≤ x) (y0 : 0 ≤ y) (y1 : y < 2 ^ k) (hs : x + y < 18446744073709551616) : orr x y = x + y := by
  obtain ⟨z, hz⟩ := hx
  have hp : (0 : Int) < 2 ^ k := Int.pow_pos (by omega)
  have z0 : 0 ≤ z := by
    rcases Int.lt_or_le z 0 with h | h
    · have := mul_le_of z (-1) (2 ^ k) (by omega) (by omega)
      omega
    · exact h
  obtain ⟨Z, rfl⟩ := Int.eq_ofNat_of_zero_le z0
  obtain ⟨Y, rfl⟩ := Int.eq_ofNat_of_zero_le y0
  have ex : x = ((2 ^ k * Z : Nat) : Int) := by rw [hz]; simp
  have hY : Y < 2 ^ k := by
    have : ((Y : Nat) : Int) < ((2 ^ k : Nat) : Int) := by simpa using y1
    exact Int.ofNat_lt.1 this
  have hX : 2 ^ k * Z + Y < 18446744073709551616 := by
    rw [ex] at hs
    have : (((2 ^ k * Z + Y : Nat)) : Int) < 18446744073709551616 := by simpa using hs
    omega
  unfold orr
  rw [ex]
  have e1 : ∀ m : Nat, m < 18446744073709551616 → (BitVec.ofInt 64 (m : Int)).toNat = m := fun m hm => by
    simp
    omega
  rw [BitVec.toNat_or, e1 _ (by omega), e1 _ (by omega), ← Nat.two_pow_add_eq_or_of_lt hY, wrap_u64]
  have : (((2 ^ k * Z + Y : Nat)) : Int) = ((2 ^ k * Z : Nat) : Int) + (Y : Int) := by simp
  rw [this]
  omega
theorem W4.of_eq {x : W4} {N k : Int} (hx : x.ok) (h : N = x.val + 115792089237316195423570985008687907853269984665640564039457584007913129639936 * k) : W4.of N = x := by
  obtain ⟨a, b, c, d⟩ := x
  unfold W4.ok at hx
  unfold W4.val at h
  unfold W4.of
  dsimp only at *
  subst h
  refine W4.ext' ?_ ?_ ?_ ?_ <;> dsimp only <;> omega
/-! ### moved up -/
def shl0 (x : W4) (n : Int) : W4 := ⟨up x.a n, orr (up x.b n) (dn x.a n), orr (up x.c n) (dn x.b n), orr (up x.d n) (dn x.c n)⟩
def shl1 (x : W4) (n : Int) : W4 := ⟨0, up x.a n, orr (up x.b n) (dn x.a n), orr (up x.c n) (dn x.b n)⟩
def shl2 (x : W4) (n : Int) : W4 := ⟨0, 0, up x.a n, orr (up x.b n) (dn x.a n)⟩
def shl3 (x : W4) (n : Int) : W4 := ⟨0, 0, 0, up x.a n⟩
/-- what one word's two pieces are -/
theorem pieces {n : Int} (hn : 0 ≤ n) {a b : Int} (ha : 0 ≤ a ∧ a < 18446744073709551616) (hb : 0 ≤ b ∧ b < 18446744073709551616) :
    orr (up b n) (dn a n) = up b n + dn a n ∧ (0 ≤ up a n ∧ up a n < 18446744073709551616) ∧ (0 ≤ up b n + dn a n ∧ up b n + dn a n < 18446744073709551616) ∧
      a * 2 ^ (n % 64).toNat = 18446744073709551616 * dn a n + up a n := by
  have P := parts n
  have Ca := cut P ha.1 ha.2
  have Cb := cut P hb.1 hb.2
  obtain ⟨e1, b1, b2, b3⟩ := up_eq hn P Ca
  obtain ⟨f1, c1, c2, c3⟩ := up_eq hn P Cb
  have e2 := dn_eq hn P Ca
  have q1 := P.q1
  have h0 := Ca.hi0
  have h1 := Ca.hi1
  refine ⟨?_, ⟨by omega, by omega⟩, ⟨by omega, by omega⟩, by rw [e1, e2]; exact b3⟩
  rw [f1, e2]
  exact orr_eq (k := (n % 64).toNat) ⟨_, rfl⟩ c1 h0 h1 (by omega)
theorem z64 : (0 : Int) ≤ 0 ∧ (0 : Int) < 18446744073709551616 := ⟨by omega, by omega⟩
theorem pow_split (n : Int) (h0 : 0 ≤ n) (j : Nat) (hj : n / 64 = j) : (2 : Int) ^ n.toNat = 2 ^ (64 * j) * 2 ^ (n % 64).toNat := by
  rw [← Int.pow_add]
  congr 1
  omega
theorem val_mul (x : W4) (q : Int) : x.val * q = x.a * q + 18446744073709551616 * (x.b * q) + 340282366920938463463374607431768211456 * (x.c * q) + 6277101735386680763835789423207666416102355444464034512896 * (x.d * q) := by
  unfold W4.val
  rw [Int.add_mul, Int.add_mul, Int.add_mul, Int.mul_assoc, Int.mul_assoc, Int.mul_assoc]
theorem shl0_eq {x : W4} (hx : x.ok) {n : Int} (hn : 0 ≤ n) (hj : n / 64 = 0) : shl0 x n = W4.of (x.val * 2 ^ n.toNat) := by
  obtain ⟨h1, h2, h3, h4⟩ := hx
  obtain ⟨o1, u1, s1, m1⟩ := pieces hn h1 h2
  obtain ⟨o2, u2, s2, m2⟩ := pieces hn h2 h3
  obtain ⟨o3, u3, s3, m3⟩ := pieces hn h3 h4
  obtain ⟨_, u4, _, m4⟩ := pieces hn h4 h1
  have e := pow_split n hn 0 hj
  have one : (2 : Int) ^ (64 * 0) = 1 := rfl
  rw [one, Int.one_mul] at e
  refine (W4.of_eq (x := shl0 x n) (k := dn x.d n) ?_ ?_).symm
  · unfold shl0; rw [o1, o2, o3]; exact ⟨u1, s1, s2, s3⟩
  · rw [e, val_mul, m1, m2, m3, m4]; unfold shl0 W4.val; dsimp only; rw [o1, o2, o3]; omega
theorem shl1_eq {x : W4} (hx : x.ok) {n : Int} (hn : 0 ≤ n) (hj : n / 64 = 1) : shl1 x n = W4.of (x.val * 2 ^ n.toNat) := by
  obtain ⟨h1, h2, h3, h4⟩ := hx
  obtain ⟨o1, u1, s1, m1⟩ := pieces hn h1 h2
  obtain ⟨o2, u2, s2, m2⟩ := pieces hn h2 h3
  obtain ⟨_, u3, _, m3⟩ := pieces hn h3 h4
  obtain ⟨_, u4, _, m4⟩ := pieces hn h4 h1
  have e := pow_split n hn 1 hj
  have one : (2 : Int) ^ (64 * 1) = 18446744073709551616 := rfl
  rw [one] at e
  refine (W4.of_eq (x := shl1 x n) (k := dn x.c n + (18446744073709551616 * dn x.d n + up x.d n)) ?_ ?_).symm
  · unfold shl1; rw [o1, o2]; exact ⟨z64, u1, s1, s2⟩
  · rw [e, Int.mul_left_comm, val_mul, m1, m2, m3, m4]; unfold shl1 W4.val; dsimp only; rw [o1, o2]; omega
theorem shl2_eq {x : W4} (hx : x.ok) {n : Int} (hn : 0 ≤ n) (hj : n / 64 = 2) : shl2 x n = W4.of (x.val * 2 ^ n.toNat) := by
  obtain ⟨h1, h2, h3, h4⟩ := hx
  obtain ⟨o1, u1, s1, m1⟩ := pieces hn h1 h2
  obtain ⟨_, u2, _, m2⟩ := pieces hn h2 h3
  have e := pow_split n hn 2 hj
  have one : (2 : Int) ^ (64 * 2) = 340282366920938463463374607431768211456 := rfl
  rw [one] at e
  refine (W4.of_eq (x := shl2 x n) (k := dn x.b n + x.c * 2 ^ (n % 64).toNat + 18446744073709551616 * (x.d * 2 ^ (n % 64).toNat)) ?_ ?_).symm
  · unfold shl2; rw [o1]; exact ⟨z64, z64, u1, s1⟩
  · rw [e, Int.mul_left_comm, val_mul, m1, m2]; unfold shl2 W4.val; dsimp only; rw [o1]; omega
theorem shl3_eq {x : W4} (hx : x.ok) {n : Int} (hn : 0 ≤ n) (hj : n / 64 = 3) : shl3 x n = W4.of (x.val * 2 ^ n.toNat) := by
  obtain ⟨h1, h2, h3, h4⟩ := hx
  obtain ⟨_, u1, _, m1⟩ := pieces hn h1 h2
  have e := pow_split n hn 3 hj
  have one : (2 : Int) ^ (64 * 3) = 6277101735386680763835789423207666416102355444464034512896 := rfl
  rw [one] at e
  refine (W4.of_eq (x := shl3 x n) (k := dn x.a n + x.b * 2 ^ (n % 64).toNat + 18446744073709551616 * (x.c * 2 ^ (n % 64).toNat) + 340282366920938463463374607431768211456 * (x.d * 2 ^ (n % 64).toNat)) ?_ ?_).symm
  · unfold shl3; exact ⟨z64, z64, z64, u1⟩
  · rw [e, Int.mul_left_comm, val_mul, m1]; unfold shl3 W4.val; dsimp only; omega
/-! ### moved down -/
theorem orr_comm (x y : Int) : orr x y = orr y x := by unfold orr; rw [BitVec.or_comm]
structure Cut' (a q r hi lo : Int) : Prop where
  sum : a = q * hi + lo
  lo0 : 0 ≤ lo
  lo1 : lo < q
  hi0 : 0 ≤ hi
  hi1 : hi < r
theorem cut' {a n q r : Int} (P : Parts n q r) (h0 : 0 ≤ a) (h1 : a < 18446744073709551616) : Cut' a q r (a / q) (a % q) := by
  have hq : 0 < q := by have := P.q1; omega
  refine ⟨(Int.mul_ediv_add_emod a q).symm, Int.emod_nonneg _ (by omega), Int.emod_lt_of_pos _ hq, Int.ediv_nonneg h0 (by omega), ?_⟩
  apply Int.ediv_lt_of_lt_mul hq
  rw [Int.mul_comm, P.qr]
  exact h1
theorem dn'_eq {a n q r : Int} (hn : 0 ≤ n) (P : Parts n q r) : dn' a n = a / q := by
  unfold dn'
  rw [min_prt hn, ← P.eq, Int.fdiv_eq_ediv_of_nonneg _ (by have := P.q1; omega)]
theorem up'_eq {a n q r hi lo : Int} (hn : 0 ≤ n) (P : Parts n q r) (C : Cut' a q r hi lo) : up' a n = r * lo ∧ 0 ≤ r * lo ∧ r * lo + r ≤ 18446744073709551616 := by
  have e : a * r = 18446744073709551616 * hi + r * lo := by
    rw [C.sum, Int.add_mul, ← P.qr, Int.mul_right_comm q hi r, Int.mul_comm lo r]
  have b0 : 0 ≤ r * lo := Int.mul_nonneg (by have := P.r1; omega) C.lo0
  have b1 : r * lo + r ≤ 18446744073709551616 := by
    have h := mul_le_of (lo + 1) q r (by have := P.r1; omega) (by have := C.lo1; omega)
    rw [Int.mul_comm r q, P.qr, Int.mul_add, Int.mul_one] at h
    exact h
  refine ⟨?_, b0, b1⟩
  unfold up'
  rw [min_rem hn, ← P.er, wrap_u64, e]
  have := P.r1
  omega
/-- what one word's two pieces are: the word is q * down + rest; the next one's rest comes in from above -/
theorem pieces' {n : Int} (hn : 0 ≤ n) {a b : Int} (ha : 0 ≤ a ∧ a < 18446744073709551616) (hb : 0 ≤ b ∧ b < 18446744073709551616) :
    ∃ lb : Int, orr (dn' a n) (up' b n) = dn' a n + up' b n ∧ (0 ≤ dn' a n ∧ dn' a n < 18446744073709551616) ∧ (0 ≤ dn' a n + up' b n ∧ dn' a n + up' b n < 18446744073709551616) ∧
      2 ^ (n % 64).toNat * up' b n = 18446744073709551616 * lb ∧ 0 ≤ lb ∧ lb < 2 ^ (n % 64).toNat ∧ b = 2 ^ (n % 64).toNat * dn' b n + lb := by
  have P := parts n
  have Ca := cut' P ha.1 ha.2
  have Cb := cut' P hb.1 hb.2
  obtain ⟨f1, c1, c2⟩ := up'_eq hn P Cb
  have e1 := dn'_eq (a := a) hn P
  have e2 := dn'_eq (a := b) hn P
  have h0 := Ca.hi0
  have h1 := Ca.hi1
  have r1 := P.r1
  refine ⟨b % 2 ^ (n % 64).toNat, ?_, ⟨by omega, by omega⟩, ⟨by omega, by omega⟩, ?_, Cb.lo0, Cb.lo1, by rw [e2]; exact Cb.sum⟩
  · rw [orr_comm, f1, e1, Int.add_comm]
    exact orr_eq (k := (64 - n % 64).toNat) ⟨_, rfl⟩ c1 h0 h1 (by omega)
  · rw [f1, ← Int.mul_assoc, P.qr]
theorem up'_even {n : Int} (hn : 0 ≤ n) {b : Int} (hb : 0 ≤ b ∧ b < 18446744073709551616) : up' b n % 2 = 0 := by
  have P := parts n
  obtain ⟨f1, _, _⟩ := up'_eq hn P (cut' P hb.1 hb.2)
  obtain ⟨k, hk⟩ : ∃ k, (64 - n % 64).toNat = k + 1 := ⟨(64 - n % 64).toNat - 1, by omega⟩
  rw [f1, hk, Int.pow_succ, Int.mul_comm _ 2, Int.mul_assoc]
  omega
def shr0 (x : W4) (n : Int) : W4 := ⟨orr (dn' x.a n) (up' x.b n), orr (dn' x.b n) (up' x.c n), orr (dn' x.c n) (up' x.d n), dn' x.d n⟩
def shr1 (x : W4) (n : Int) : W4 := ⟨orr (dn' x.b n) (up' x.c n), orr (dn' x.c n) (up' x.d n), dn' x.d n, 0⟩
def shr2 (x : W4) (n : Int) : W4 := ⟨orr (dn' x.c n) (up' x.d n), dn' x.d n, 0, 0⟩
def shr3 (x : W4) (n : Int) : W4 := ⟨dn' x.d n, 0, 0, 0⟩
theorem ediv_of {N q m l : Int} (h : N = q * m + l) (h0 : 0 ≤ l) (h1 : l < q) : N / q = m := by
  rw [h, Int.add_comm, Int.add_mul_ediv_left _ _ (by omega), Int.ediv_eq_zero_of_lt h0 h1, Int.zero_add]
theorem shr_val {x m : W4} {n : Int} {q l : Int} (hm : m.ok) (h : x.val = q * m.val + l) (h0 : 0 ≤ l) (h1 : l < q) (hq : q = 2 ^ n.toNat) : m = W4.of (x.val / 2 ^ n.toNat) := by
  rw [← hq, ediv_of h h0 h1, W4.of_val hm]
theorem shr0_eq {x : W4} (hx : x.ok) {n : Int} (hn : 0 ≤ n) (hj : n / 64 = 0) : shr0 x n = W4.of (x.val / 2 ^ n.toNat) ∧ (shr0 x n).ok := by
  obtain ⟨h1, h2, h3, h4⟩ := hx
  obtain ⟨l1, o1, d1, s1, m1, l10, l11, e1⟩ := pieces' hn h1 h2
  obtain ⟨l2, o2, d2, s2, m2, l20, l21, e2⟩ := pieces' hn h2 h3
  obtain ⟨l3, o3, d3, s3, m3, l30, l31, e3⟩ := pieces' hn h3 h4
  obtain ⟨l4, _, d4, _, _, l40, l41, e4⟩ := pieces' hn h4 h1
  have e := pow_split n hn 0 hj
  have one : (2 : Int) ^ (64 * 0) = 1 := rfl
  rw [one, Int.one_mul] at e
  have hok : (shr0 x n).ok := by unfold shr0; rw [o1, o2, o3]; exact ⟨s1, s2, s3, d4⟩
  refine ⟨shr_val (q := 2 ^ (n % 64).toNat) (l := l4) hok ?_ l40 l41 e.symm, hok⟩
  rw [Int.mul_comm, val_mul]
  unfold shr0 W4.val
  dsimp only
  rw [o1, o2, o3]
  generalize (2 : Int) ^ (n % 64).toNat = q at *
  simp only [Int.mul_comm _ q, Int.mul_add]
  omega
theorem shr1_eq {x : W4} (hx : x.ok) {n : Int} (hn : 0 ≤ n) (hj : n / 64 = 1) : shr1 x n = W4.of (x.val / 2 ^ n.toNat) ∧ (shr1 x n).ok := by
  obtain ⟨h1, h2, h3, h4⟩ := hx
  obtain ⟨l2, o2, d2, s2, m2, l20, l21, e2⟩ := pieces' hn h2 h3
  obtain ⟨l3, o3, d3, s3, m3, l30, l31, e3⟩ := pieces' hn h3 h4
  obtain ⟨l4, _, d4, _, _, _, _, _⟩ := pieces' hn h4 h1
  obtain ⟨l5, _, _, _, _, l50, l51, e5⟩ := pieces' hn h1 h2
  have e := pow_split n hn 1 hj
  have one : (2 : Int) ^ (64 * 1) = 18446744073709551616 := rfl
  rw [one] at e
  have hok : (shr1 x n).ok := by unfold shr1; rw [o2, o3]; exact ⟨s2, s3, d4, z64⟩
  refine ⟨shr_val (q := 18446744073709551616 * 2 ^ (n % 64).toNat) (l := x.a + 18446744073709551616 * l5) hok ?_ (by omega) (by omega) e.symm, hok⟩
  rw [Int.mul_assoc, Int.mul_comm (2 ^ (n % 64).toNat), val_mul]
  unfold shr1 W4.val
  dsimp only
  rw [o2, o3]
  generalize (2 : Int) ^ (n % 64).toNat = q at *
  simp only [Int.mul_comm _ q, Int.mul_add]
  omega
theorem shr2_eq {x : W4} (hx : x.ok) {n : Int} (hn : 0 ≤ n) (hj : n / 64 = 2) : shr2 x n = W4.of (x.val / 2 ^ n.toNat) ∧ (shr2 x n).ok := by
  obtain ⟨h1, h2, h3, h4⟩ := hx
  obtain ⟨l3, o3, d3, s3, m3, l30, l31, e3⟩ := pieces' hn h3 h4
  obtain ⟨l4, _, d4, _, _, _, _, _⟩ := pieces' hn h4 h1
  obtain ⟨l5, _, _, _, _, l50, l51, e5⟩ := pieces' hn h1 h3
  have e := pow_split n hn 2 hj
  have one : (2 : Int) ^ (64 * 2) = 340282366920938463463374607431768211456 := rfl
  rw [one] at e
  have hok : (shr2 x n).ok := by unfold shr2; rw [o3]; exact ⟨s3, d4, z64, z64⟩
  refine ⟨shr_val (q := 340282366920938463463374607431768211456 * 2 ^ (n % 64).toNat) (l := x.a + 18446744073709551616 * x.b + 340282366920938463463374607431768211456 * l5) hok ?_ (by omega) (by omega) e.symm, hok⟩
  rw [Int.mul_assoc, Int.mul_comm (2 ^ (n % 64).toNat), val_mul]
  unfold shr2 W4.val
  dsimp only
  rw [o3]
  generalize (2 : Int) ^ (n % 64).toNat = q at *
  simp only [Int.mul_comm _ q, Int.mul_add]
  omega
theorem shr3_eq {x : W4} (hx : x.ok) {n : Int} (hn : 0 ≤ n) (hj : n / 64 = 3) : shr3 x n = W4.of (x.val / 2 ^ n.toNat) ∧ (shr3 x n).ok := by
  obtain ⟨h1, h2, h3, h4⟩ := hx
  obtain ⟨l4, _, d4, _, _, _, _, _⟩ := pieces' hn h4 h1
  obtain ⟨l5, _, _, _, _, l50, l51, e5⟩ := pieces' hn h1 h4
  have e := pow_split n hn 3 hj
  have one : (2 : Int) ^ (64 * 3) = 6277101735386680763835789423207666416102355444464034512896 := rfl
  rw [one] at e
  have hok : (shr3 x n).ok := by unfold shr3; exact ⟨d4, z64, z64, z64⟩
  refine ⟨shr_val (q := 6277101735386680763835789423207666416102355444464034512896 * 2 ^ (n % 64).toNat) (l := x.a + 18446744073709551616 * x.b + 340282366920938463463374607431768211456 * x.c + 6277101735386680763835789423207666416102355444464034512896 * l5) hok ?_ (by omega) (by omega) e.symm, hok⟩
  rw [Int.mul_assoc, Int.mul_comm (2 ^ (n % 64).toNat), val_mul]
  unfold shr3 W4.val
  dsimp only
  generalize (2 : Int) ^ (n % 64).toNat = q at *
  simp only [Int.mul_comm _ q]
  omega
end Go.Wd
namespace Go.Proofs.YtjkgnbdeklploaaGreatDoor
open Go.KRun
theorem okL1 {a b : Bool} (h : a = b) : okLog [(a, b)] := fun p hp => by rw [List.mem_singleton.1 hp]; exact h
theorem okCons {a b : Bool} {l : Log} (h : a = b) (hl : okLog l) : okLog ((a, b) :: l) := fun p hp => by
  rcases List.mem_cons.1 hp with rfl | hp
  · exact h
  · exact hl p hp
theorem okCs {a b : Bool} {l : Log} : okLog ((a, b) :: l) ↔ a = b ∧ okLog l := ⟨fun h => ⟨h _ (List.mem_cons_self), fun x hx => h x (List.mem_cons_of_mem _ hx)⟩, fun h => okCons h.1 h.2⟩
theorem okNl : okLog [] := fun x hx => by cases hx
end Go.Proofs.YtjkgnbdeklploaaGreatDoor
