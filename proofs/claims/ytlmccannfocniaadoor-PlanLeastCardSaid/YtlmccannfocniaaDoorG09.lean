/-
  RunG, RunS, RunT, RunU, RunW, RunY, RunO, Tab, Hcs, RunX2, RunTb, RunK, RunL
-/
import Derived.Test.YtlmccannfocniaaDoorG08
import Derived.OneCell
import Derived.Laws.Externs
import Derived.Test.YtlmccannfocniaaDoorProg
import Derived.WalkKit
import Derived.LaidEql
import Derived.Stop.Asserts
import Derived.RowKitTokens
namespace Go.KRun
open Go.RowKit
/-- how code ends: at its end; by a return; by leaving a block -/
abbrev Ex := Option (Option Nat)
def out : Ex → Exit
  | none => .normal
  | some (some id) => .exit id
  | some none => .ret
/-! ### results -/
def resV (P : Program) (t : List Value) (h : Hp) : ResultVar → Option Value
  | .tmp i => some (t.getD i undef)
  | .cell i ty =>
    match t.getD i undef with
    | .pointer (some a) => loadS P ty a h
    | _ => none
def resL (P : Program) (t : List Value) (h : Hp) : List ResultVar → Option (List Value)
  | [] => some []
  | r :: rs =>
    match resV P t h r with
    | some v =>
      match resL P t h rs with
      | some vs => some (v :: vs)
      | none => none
    | none => none
def resS (P : Program) (F : Func) (t : List Value) (h : Hp) : Option Value :=
  match resL P t h F.results.toList with
  | some [v] => some v
  | some vs => if (vs.all noT) = true then some (.tuple vs.toArray) else none
  | none => none
theorem getD_mv {m : Mp} (t : List Value) (i : Nat) : (t.map (mv m)).toArray.getD i undef = mv m (t.getD i undef) := by
  simp only [List.getD]
  cases h : t[i]? with
  | none => simp [h, mv_undef]
  | some v => simp [h]
theorem resL_run {m : Mp} {B : Nat} {P : Program} {t : List Value} {h : Hp} {w : World} (E : Emb m B h w) (ht : ∀ v ∈ t, lt h.n v = true) : ∀ (rs : List ResultVar) (vs : List Value), resL P t h rs = some vs →
    (rs.mapM (m := Sem) fun
      | .tmp i => pure ((t.map (mv m)).toArray.getD i undef)
      | .cell i ty => do loadVar ty (← asAddr ((t.map (mv m)).toArray.getD i undef))).run P w = .ok (vs.map (mv m)) w ∧ ∀ v ∈ vs, lt h.n v = true
  | [], vs, hs => by
    simp only [resL] at hs
    cases hs
    exact ⟨by simp, by simp⟩
  | r :: rs, vs, hs => by
    simp only [resL] at hs
    split at hs
    · rename_i v hv
      split at hs
      · rename_i vs' hvs
        cases hs
        obtain ⟨h1, h2⟩ := resL_run E ht rs vs' hvs
        rw [List.mapM_cons]
        cases r with
        | tmp i =>
          simp only [resV] at hv
          cases hv
          refine ⟨?_, fun y hy => ?_⟩
          · simp only [getD_mv] at h1 ⊢
            simp only [Sem.run_bind, Sem.run_pure, Result.andThen_ok, h1, List.map_cons]
          · rcases List.mem_cons.1 hy with rfl | hy
            · simp only [List.getD]
              cases hh : t[i]? with
              | none => simp [undef, lt]
              | some u => exact ht u (List.mem_of_getElem? hh)
            · exact h2 y hy
        | cell i ty =>
          simp only [resV] at hv
          split at hv
          · rename_i a ha
            obtain ⟨g1, g2⟩ := loadS_run (P := P) E hv
            refine ⟨?_, fun y hy => ?_⟩
            · have e : mv m (Value.pointer (some a)) = .pointer (some (mvA m a)) := rfl
              have g3 : (loadVar ty (mvA m a)).run P w = .ok (mv m v) w := by
                simpa [Instr.loadAt, Instr.sureAddr] using g1
              simp only [getD_mv] at h1 ⊢
              have g4 : (asAddr (.pointer (some (mvA m a)))).run P w = .ok (mvA m a) w := rfl
              simp only [Sem.run_bind, Sem.run_pure, Result.andThen_ok, h1, ha, e, g4, g3, List.map_cons]
            · rcases List.mem_cons.1 hy with rfl | hy
              · exact g2
              · exact h2 y hy
          · cases hv
      · cases hs
    · cases hs
theorem tuple_mv {m : Mp} {vs : List Value} (h : (vs.all noT) = true) : mv m (.tuple vs.toArray) = .tuple (vs.map (mv m)).toArray := by
  simp only [mv, List.map_toArray]
  congr 2
  refine List.map_congr_left fun v hv => ?_
  have := List.all_eq_true.1 h v hv
  cases v <;> simp_all [noT, mv]
theorem resS_run {m : Mp} {B : Nat} {P : Program} {F : Func} {t : List Value} {h : Hp} {w : World} {v : Value} (E : Emb m B h w) (ht : ∀ v ∈ t, lt h.n v = true) (hs : resS P F t h = some v) :
    (results F (t.map (mv m)).toArray).run P w = .ok (mv m v) w ∧ lt h.n v = true := by
  unfold resS at hs
  have key : ∀ vs, resL P t h F.results.toList = some vs → (results F (t.map (mv m)).toArray).run P w = .ok (if hh : (vs.map (mv m)).toArray.size = 1 then (vs.map (mv m)).toArray[0] else .tuple (vs.map (mv m)).toArray) w ∧ ∀ v ∈ vs, lt h.n v = true := by
    intro vs hvs
    obtain ⟨h1, h2⟩ := resL_run E ht F.results.toList vs hvs
    refine ⟨?_, h2⟩
    unfold results
    have e : F.results = F.results.toList.toArray := by simp
    rw [e]
    rw [List.mapM_toArray]
    simp only [Sem.run_bind, Sem.run_map, Sem.run_pure]
    erw [h1]
    rfl
  split at hs
  · rename_i u hu
    cases hs
    obtain ⟨h1, h2⟩ := key _ hu
    exact ⟨by simpa using h1, h2 _ (by simp)⟩
  · rename_i vs hne hu
    split at hs
    · rename_i hall
      cases hs
      obtain ⟨h1, h2⟩ := key _ hu
      have hlen : ¬ (vs.map (mv m)).toArray.size = 1 := by
        intro hl
        simp only [List.size_toArray, List.length_map] at hl
        obtain ⟨u, hu'⟩ := List.length_eq_one_iff.1 hl
        exact hne u hu'
      rw [dif_neg hlen] at h1
      refine ⟨by rw [h1, tuple_mv hall], ?_⟩
      simp only [lt, List.all_eq_true]
      intro y hy
      have h3 := h2 y hy
      have h4 := List.all_eq_true.1 hall y hy
      cases y <;> simp_all [lt, noT]
    · cases hs
  · cases hs
/-! ### code and calls -/
def callBy (T : Tab) (evc : Code → Lf → Lg → Option (Ex × Lf × Lg)) : CallF := fun f vals h s L =>
  match T.fn f with
  | none => none
  | some F =>
    match F.body with
    | none => none
    | some c =>
      match evc c (vals ++ List.replicate (F.ntmps - vals.length) undef, h, s) L with
      | some (some (some _), _, _) => none
      | some (_, x, L') =>
        match resS T.P F x.1 x.2.1 with
        | some v => some (v, x.2.1, x.2.2, L')
        | none => none
      | none => none
def evC (T : Tab) : Nat → Bool → Code → Lf → Lg → Option (Ex × Lf × Lg)
  | 0, _, _, _, _ => none
  | n + 1, true, c, x, L =>
    match evC T n false c x L with
    | some (none, x', L') => evC T n true c x' L'
    | r => r
  | n + 1, false, c, x, L =>
    match c with
    | .skip => some (none, x, L)
    | .label _ => some (none, x, L)
    | .region _ ops draw =>
      match regS T (callBy T (evC T n false)) ops draw x L with
      | some r => some (none, r.1, r.2)
      | none => none
    | .seq c1 c2 =>
      match evC T n false c1 x L with
      | some (none, x', L') => evC T n false c2 x' L'
      | r => r
    | .cond b c1 c2 =>
      if okX b = true then
        match ev x.1 b with
        | .bool v =>
          match (pickB v x.2.2).1 with
          | true => evC T n false c1 (x.1, x.2.1, (pickB v x.2.2).2.1) (Lg.add (pickB v x.2.2).2.2 L)
          | false => evC T n false c2 (x.1, x.2.1, (pickB v x.2.2).2.1) (Lg.add (pickB v x.2.2).2.2 L)
        | _ => none
      else none
    | .block id c =>
      match evC T n false c x L with
      | some (some (some id'), x', L') => if id' = id then some (none, x', L') else some (some (some id'), x', L')
      | r => r
    | .loop c => evC T n true c x L
    | .exit id => some (some (some id), x, L)
    | .ret => some (some none, x, L)
    | .scope c => evC T n false c x L
    | _ => none
def EvOk (T : Tab) (ev : Code → Lf → Lg → Option (Ex × Lf × Lg)) : Prop := ∀ c x L e x' L', ev c x L = some (e, x', L') → L'.ok → L.ok ∧
  ∀ m B a w, Rel m B x a w → ∀ Q : Exit → Act → World → Prop, (∀ a' w', Reach m B x.2.1.n w x' a' w' → Q (out e) a' w') → c.wp T.P Q a w
def RdOk (T : Tab) (r : Nat) (ev : Code → Lf → Lg → Option (Ex × Lf × Lg)) : Prop := ∀ c x L e x' L', ev c x L = some (e, x', L') → L'.ok → L.ok ∧
  ∀ m B a w, Rel m B x a w → ∀ Q : Exit → Act → World → Prop, (∀ a' w', Reach m B x.2.1.n w x' a' w' → Q (out e) a' w') → Code.rounds T.P c Q r a w
theorem callBy_ok {T : Tab} (hT : TabOk T) {evc : Code → Lf → Lg → Option (Ex × Lf × Lg)} (hE : EvOk T evc) : CallOk T (callBy T evc) := by
  intro f vals h s L v h' s' L' hs hL
  unfold callBy at hs
  split at hs
  · cases hs
  · rename_i F hF
    split at hs
    · cases hs
    · rename_i c hc
      obtain ⟨hP, hN⟩ := hT.fn _ _ hF
      have main : ∀ e x, evc c (vals ++ List.replicate (F.ntmps - vals.length) undef, h, s) L = some (e, x, L') → (e = none ∨ e = some none) → resS T.P F x.1 x.2.1 = some v → x.2.1 = h' →
          L.ok ∧ (∃ F, T.P.funcs[f]? = some F ∧ (F.name == "runtime.NumGoroutine") = false ∧ F.body.isSome = true) ∧
          ∀ m B w, Emb m B h w → (∀ v ∈ vals, lt h.n v = true) → Calls T.P f (vals.map (mv m)).toArray w fun e w' => ∃ m', e = .returned (mv m' v) ∧ Came m B h w v h' m' w' := by
        intro e x he hex hres hh
        subst hh
        obtain ⟨h1, h2⟩ := hE _ _ _ _ _ _ he hL
        refine ⟨h1, ⟨F, hP, hN, by simp [hc]⟩, fun m B w E hv => calls_of_wp hP hc ?_⟩
        have R : Rel m B (vals ++ List.replicate (F.ntmps - vals.length) undef, h, s) { tmps := (vals.map (mv m)).toArray ++ Array.replicate (F.ntmps - (vals.map (mv m)).toArray.size) undef, defers := [] } w := by
          refine ⟨?_, rfl, E, ?_⟩
          · simp [mv_undef]
          · intro y hy
            rcases List.mem_append.1 hy with hy | hy
            · exact hv y hy
            · rw [List.eq_of_mem_replicate hy]; simp [undef, lt]
        refine h2 m B _ w R _ fun a' w' hR => ?_
        obtain ⟨m', k1, k2, k3, k4⟩ := hR
        obtain ⟨r1, r2⟩ := resS_run k2.emb k2.wf hres
        rw [← k2.tmps] at r1
        have post : a'.defers = [] ∧ ∃ v', (results F a'.tmps).run T.P w' = .ok v' w' ∧ ∃ m', Ending.returned v' = .returned (mv m' v) ∧ Came m B h w v x.2.1 m' w' :=
          ⟨k2.dfr, _, r1, m', rfl, ⟨k1, k2.emb, k3, k4, r2⟩⟩
        rcases hex with rfl | rfl <;> exact post
      split at hs
      · cases hs
      · rename_i e x L1 hne he
        split at hs
        · rename_i u hu
          cases hs
          refine main e x he ?_ hu rfl
          match e, hne with
          | none, _ => exact .inl rfl
          | some none, _ => exact .inr rfl
          | some (some id), hne => exact absurd rfl (hne id)
        · cases hs
      · cases hs
theorem evC_ok {T : Tab} (hT : TabOk T) : ∀ n, EvOk T (evC T n false) ∧ RdOk T n (evC T n true) := by
  intro n
  induction n with
  | zero => exact ⟨fun c x L e x' L' h => by simp [evC] at h, fun c x L e x' L' h => by simp [evC] at h⟩
  | succ n ih =>
    obtain ⟨ihE, ihR⟩ := ih
    refine ⟨?_, ?_⟩
    · intro c x L e x' L' h hL
      cases c with
      | skip =>
        simp only [evC] at h
        cases h
        exact ⟨hL, fun m B a w R Q hQ => wp_skip (hQ _ _ ⟨m, Agree.refl _ _, R, Below.refl _ _, Nat.le_refl _⟩)⟩
      | label l =>
        simp only [evC] at h
        cases h
        exact ⟨hL, fun m B a w R Q hQ => wp_label (hQ _ _ ⟨m, Agree.refl _ _, R, Below.refl _ _, Nat.le_refl _⟩)⟩
      | region id ops draw =>
        simp only [evC] at h
        split at h
        · rename_i r hr
          cases h
          exact regS_ok (x' := r.1) (L' := r.2) hT (callBy_ok hT ihE) hr hL
        · cases h
      | seq c1 c2 =>
        simp only [evC] at h
        split at h
        · rename_i x1 L1 h1
          obtain ⟨g1, g2⟩ := ihE _ _ _ _ _ _ h hL
          obtain ⟨g3, g4⟩ := ihE _ _ _ _ _ _ h1 g1
          refine ⟨g3, fun m B a w R Q hQ => wp_seq (g4 m B a w R _ fun a' w' hR => ?_)⟩
          obtain ⟨m', k1, k2, k3, k4⟩ := hR
          exact g2 m' B a' w' k2 Q fun a'' w'' hR' => hQ _ _ (Reach.trans k1 k3 k4 hR')
        · rename_i hne
          obtain ⟨g3, g4⟩ := ihE _ _ _ _ _ _ h hL
          refine ⟨g3, fun m B a w R Q hQ => wp_seq (g4 m B a w R _ fun a' w' hR => ?_)⟩
          have := hQ a' w' hR
          match e, h, this with
          | none, h, _ => exact absurd h (hne x' L')
          | some (some id), _, this => exact this
          | some none, _, this => exact this
      | cond b c1 c2 =>
        simp only [evC] at h
        split at h
        · rename_i hb
          split at h
          · rename_i v hv
            split at h
            · rename_i hp
              obtain ⟨g1, g2⟩ := ihE _ _ _ _ _ _ h hL
              obtain ⟨l1, l2⟩ := Lg.add_ok g1
              have e1 := pickB_ok l1
              rw [hp] at e1
              refine ⟨l2, fun m B a w R Q hQ => ?_⟩
              have hev : a.eval b = .bool true := by rw [eval_mv R.tmps hb, hv, ← e1]; rfl
              exact wp_cond_true hev (g2 m B a w ⟨R.tmps, R.dfr, R.emb, R.wf⟩ Q hQ)
            · rename_i hp
              obtain ⟨g1, g2⟩ := ihE _ _ _ _ _ _ h hL
              obtain ⟨l1, l2⟩ := Lg.add_ok g1
              have e1 := pickB_ok l1
              rw [hp] at e1
              refine ⟨l2, fun m B a w R Q hQ => ?_⟩
              have hev : a.eval b = .bool false := by rw [eval_mv R.tmps hb, hv, ← e1]; rfl
              exact wp_cond_false hev (g2 m B a w ⟨R.tmps, R.dfr, R.emb, R.wf⟩ Q hQ)
          · cases h
        · cases h
      | block id c =>
        simp only [evC] at h
        split at h
        · rename_i id' x1 L1 h1
          split at h
          · rename_i hid
            cases h
            obtain ⟨g3, g4⟩ := ihE _ _ _ _ _ _ h1 hL
            refine ⟨g3, fun m B a w R Q hQ => wp_block (g4 m B a w R _ fun a' w' hR => ?_)⟩
            simp only [out, Exit.inBlock, hid, if_true]
            exact hQ a' w' hR
          · rename_i hid
            cases h
            obtain ⟨g3, g4⟩ := ihE _ _ _ _ _ _ h1 hL
            refine ⟨g3, fun m B a w R Q hQ => wp_block (g4 m B a w R _ fun a' w' hR => ?_)⟩
            simp only [out, Exit.inBlock, hid, if_false]
            exact hQ a' w' hR
        · rename_i hne
          obtain ⟨g3, g4⟩ := ihE _ _ _ _ _ _ h hL
          refine ⟨g3, fun m B a w R Q hQ => wp_block (g4 m B a w R _ fun a' w' hR => ?_)⟩
          have := hQ a' w' hR
          match e, h, this with
          | none, _, this => exact this
          | some (some id'), h, _ => exact absurd h (hne id' x' L')
          | some none, _, this => exact this
      | loop c =>
        simp only [evC] at h
        obtain ⟨g1, g2⟩ := ihR _ _ _ _ _ _ h hL
        refine ⟨g1, fun m B a w R Q hQ => ?_⟩
        exact wp_loop_rounds n (g2 m B a w R Q hQ)
      | exit id =>
        simp only [evC] at h
        cases h
        exact ⟨hL, fun m B a w R Q hQ => wp_exit (hQ _ _ ⟨m, Agree.refl _ _, R, Below.refl _ _, Nat.le_refl _⟩)⟩
      | ret =>
        simp only [evC] at h
        cases h
        exact ⟨hL, fun m B a w R Q hQ => wp_ret (hQ _ _ ⟨m, Agree.refl _ _, R, Below.refl _ _, Nat.le_refl _⟩)⟩
      | scope c =>
        simp only [evC] at h
        obtain ⟨g3, g4⟩ := ihE _ _ _ _ _ _ h hL
        refine ⟨g3, fun m B a w R Q hQ => wp_scope_straight (g4 m B a w R _ fun a' w' hR => ?_)⟩
        have := hQ a' w' hR
        match e, this with
        | none, this => exact this
        | some (some id), this => exact this
        | some none, this => exact this
      | rangeFunc f ps ar b => simp [evC] at h
      | goto l => simp [evC] at h
      | refuse why => simp [evC] at h
    · intro c x L e x' L' h hL
      simp only [evC] at h
      split at h
      · rename_i x1 L1 h1
        obtain ⟨g1, g2⟩ := ihR _ _ _ _ _ _ h hL
        obtain ⟨g3, g4⟩ := ihE _ _ _ _ _ _ h1 g1
        refine ⟨g3, fun m B a w R Q hQ => ?_⟩
        rw [rounds_succ]
        refine g4 m B a w R _ fun a' w' hR => ?_
        obtain ⟨m', k1, k2, k3, k4⟩ := hR
        exact g2 m' B a' w' k2 Q fun a'' w'' hR' => hQ _ _ (Reach.trans k1 k3 k4 hR')
      · rename_i hne
        obtain ⟨g3, g4⟩ := ihE _ _ _ _ _ _ h hL
        refine ⟨g3, fun m B a w R Q hQ => ?_⟩
        rw [rounds_succ]
        refine g4 m B a w R _ fun a' w' hR => ?_
        have := hQ a' w' hR
        match e, h, this with
        | none, h, _ => exact absurd h (hne x' L')
        | some (some id), _, this => exact this
        | some none, _, this => exact this
/-! ### THE THEOREM -/
/-- What is to be reckoned of a call: that an answer comes, that it is 'v', that the tests logged are 'cs', and that all else that was logged is so. -/
def Fits (r : Option (Value × Hp × List Dec × Lg)) (v : Value) (cs : Log) : Prop :=
  r.map (fun r => r.1) = some v ∧ r.map (fun r => r.2.2.2.cs) = some cs ∧ r.map (fun r => r.2.2.2.es.map Prod.fst) = r.map (fun r => r.2.2.2.es.map Prod.snd) ∧ r.map (fun r => r.2.2.2.bs.map Prod.fst) = r.map (fun r => r.2.2.2.bs.map Prod.snd)
theorem all_eq {α : Type} : ∀ (l : List (α × α)), l.map Prod.fst = l.map Prod.snd → ∀ x ∈ l, x.1 = x.2
  | [], _, x, hx => by cases hx
  | y :: l, h, x, hx => by
    simp only [List.map_cons, List.cons.injEq] at h
    rcases List.mem_cons.1 hx with rfl | hx
    · exact h.1
    · exact all_eq l h.2 x hx
/-- From state x the code c ends, in one of the ways that 'Post' tells. -/
def Runs (T : Tab) (c : Code) (x : Lf) (Post : Ex → Lf → Prop) : Prop :=
  ∀ m B a w, Rel m B x a w → ∀ Q : Exit → Act → World → Prop, (∀ e y, Post e y → ∀ a' w', Reach m B x.2.1.n w y a' w' → Q (out e) a' w') → c.wp T.P Q a w
theorem Runs.mono {T : Tab} {c : Code} {x : Lf} {P P' : Ex → Lf → Prop} (h : Runs T c x P) (hp : ∀ e y, P e y → P' e y) : Runs T c x P' :=
  fun m B a w R Q hQ => h m B a w R Q fun e y he => hQ e y (hp e y he)
/-- the decisions that are told ahead are no part of the state -/
theorem Runs.script {T : Tab} {c : Code} {t : List Value} {h : Hp} {s s' : List Dec} {P : Ex → Lf → Prop} (hr : Runs T c (t, h, s) P) : Runs T c (t, h, s') P :=
  fun m B a w R Q hQ => hr m B a w ⟨R.tmps, R.dfr, R.emb, R.wf⟩ Q hQ
theorem Runs.ev {T : Tab} (hT : TabOk T) {n : Nat} {c : Code} {x x' : Lf} {e : Ex} {L : Lg} (h : evC T n false c x ⟨[], [], []⟩ = some (e, x', L)) (hL : L.ok) : Runs T c x fun e' y => e' = e ∧ y = x' :=
  fun m B a w R Q hQ => ((evC_ok hT n).1 c x _ e x' L h hL).2 m B a w R Q fun a' w' hR => hQ e x' ⟨rfl, rfl⟩ a' w' hR
/-! ### the pieces of a piece of code -/
def cFst : Code → Code
  | .seq a _ => a
  | c => c
def cSnd : Code → Code
  | .seq _ b => b
  | c => c
def cIn : Code → Code
  | .block _ c => c
  | .loop c => c
  | .scope c => c
  | c => c
def cBody (F : Func) : Code := F.body.getD .skip
/-- temporaries of which nothing is known but how many they are -/
def tl (n : Nat) (g : Nat → Value) : List Value := (List.range n).map g
theorem tl_of {J : List Value} {n : Nat} (h : J.length = n) : ∃ g, J = tl n g := by
  refine ⟨fun i => J.getD i undef, ?_⟩
  unfold tl
  refine List.ext_getElem (by simp [h]) fun i h1 h2 => ?_
  simp [h1]
/-- What is to be reckoned of a piece of code: how it ends, the first k temporaries and how many more there are, the memory, what was decided. -/
def GoesT (r : Option (Ex × Lf × Lg)) (k n : Nat) (e : Ex) (front : List Value) (h : Hp) (cs : Log) : Prop :=
  r.map (fun r => (r.1, r.2.1.1.take k, (r.2.1.1.drop k).length, r.2.1.2.1, r.2.2.cs)) = some (e, front, n, h, cs) ∧
    r.map (fun r => r.2.2.es.map Prod.fst) = r.map (fun r => r.2.2.es.map Prod.snd) ∧ r.map (fun r => r.2.2.bs.map Prod.fst) = r.map (fun r => r.2.2.bs.map Prod.snd)
theorem goesT_some {r : Option (Ex × Lf × Lg)} {k n : Nat} {e : Ex} {front : List Value} {h : Hp} {cs : Log} (hG : GoesT r k n e front h cs) (hcs : okLog cs) : ∃ g s L, r = some (e, (front ++ tl n g, h, s), L) ∧ L.ok := by
  obtain ⟨h1, h5, h6⟩ := hG
  cases r with
  | none => cases h1
  | some r =>
    simp only [Option.map_some, Option.some.injEq, Prod.mk.injEq] at h1 h5 h6
    obtain ⟨e', ⟨t', h', s'⟩, L⟩ := r
    simp only at h1 h5 h6
    obtain ⟨h1, h2, h3, h4, h7⟩ := h1
    subst h1 h4
    obtain ⟨g, hg⟩ := tl_of h3
    refine ⟨g, s', L, ?_, by rw [h7]; exact hcs, all_eq _ h5, all_eq _ h6⟩
    rw [← h2, ← hg, List.take_append_drop]
theorem goesT_runs {T : Tab} (hT : TabOk T) {N : Nat} {c : Code} {t : List Value} {h h' : Hp} {s s0 : List Dec} {k n : Nat} {e : Ex} {front : List Value} {cs : Log} (hG : GoesT (evC T N false c (t, h, s) ⟨[], [], []⟩) k n e front h' cs) (hcs : okLog cs) :
    Runs T c (t, h, s0) fun e' y => e' = e ∧ (∃ g, y.1 = front ++ tl n g) ∧ y.2.1 = h' := by
  obtain ⟨g, s', L, hr, hL⟩ := goesT_some hG hcs
  refine Runs.script ((Runs.ev hT hr hL).mono fun e2 y he => ?_)
  obtain ⟨rfl, rfl⟩ := he
  exact ⟨rfl, ⟨g, rfl⟩, rfl⟩
def RunsW (T : Tab) (c : Code) (x : Lf) (Post : Ex → Lf → Prop) : Prop :=
  ∀ m B a w, Rel m B x a w → ∀ Q : Exit → Act → World → Prop, (∀ e y, Post e y → ∀ m' a' w', Rel m' B y a' w' → Below B w w' → Q (out e) a' w') → c.wp T.P Q a w
theorem Runs.w {T : Tab} {c : Code} {x : Lf} {P : Ex → Lf → Prop} (h : Runs T c x P) : RunsW T c x P := fun m B a w R Q hQ => h m B a w R Q fun e y he a' w' hR => by
  obtain ⟨m', _, k2, k3, _⟩ := hR
  exact hQ e y he m' a' w' k2 k3
/-- the state behind it told otherwise -/
theorem RunsW.post {T : Tab} {c : Code} {x : Lf} {P P' : Ex → Lf → Prop} (h : RunsW T c x P) (hp : ∀ e y, P e y → ∃ y', P' e y' ∧ ∀ m B a w, Rel m B y a w → ∃ m', Rel m' B y' a w) : RunsW T c x P' :=
  fun m B a w R Q hQ => h m B a w R Q fun e y he m' a' w' hR hb => by
    obtain ⟨y', h1, h2⟩ := hp e y he
    obtain ⟨m2, h3⟩ := h2 m' B a' w' hR
    exact hQ e y' h1 m2 a' w' h3 hb
theorem RunsW.mono {T : Tab} {c : Code} {x : Lf} {P P' : Ex → Lf → Prop} (h : RunsW T c x P) (hp : ∀ e y, P e y → P' e y) : RunsW T c x P' := h.post fun e y he => ⟨y, hp e y he, fun m _ _ _ R => ⟨m, R⟩⟩
theorem RunsW.seq {T : Tab} {c1 c2 : Code} {x : Lf} {P1 P : Ex → Lf → Prop} (h1 : RunsW T c1 x P1) (h2 : ∀ y, P1 none y → RunsW T c2 y P) (h3 : ∀ e y, P1 (some e) y → P (some e) y) : RunsW T (.seq c1 c2) x P := by
  intro m B a w R Q hQ
  refine wp_seq (h1 m B a w R _ fun e y he m' a' w' hR hb => ?_)
  match e, he with
  | none, he => exact h2 y he m' B a' w' hR Q fun e' y' he' m'' a'' w'' hR' hb' => hQ e' y' he' m'' a'' w'' hR' (hb.trans hb')
  | some none, he => exact hQ _ _ (h3 none y he) m' a' w' hR hb
  | some (some id), he => exact hQ _ _ (h3 (some id) y he) m' a' w' hR hb
theorem RunsW.block {T : Tab} {c : Code} {id : Nat} {x : Lf} {P1 P : Ex → Lf → Prop} (h1 : RunsW T c x P1) (h2 : ∀ y, P1 none y → P none y) (h3 : ∀ y, P1 (some none) y → P (some none) y)
    (h4 : ∀ y, P1 (some (some id)) y → P none y) (h5 : ∀ id' y, id' ≠ id → P1 (some (some id')) y → P (some (some id')) y) : RunsW T (.block id c) x P := by
  intro m B a w R Q hQ
  refine wp_block (h1 m B a w R _ fun e y he m' a' w' hR hb => ?_)
  match e, he with
  | none, he => exact hQ _ _ (h2 y he) m' a' w' hR hb
  | some none, he => exact hQ _ _ (h3 y he) m' a' w' hR hb
  | some (some id'), he =>
    simp only [out, Exit.inBlock]
    by_cases hid : id' = id
    · subst hid
      rw [if_pos rfl]
      exact hQ _ _ (h4 y he) m' a' w' hR hb
    · rw [if_neg hid]
      exact hQ _ _ (h5 id' y hid he) m' a' w' hR hb
theorem RunsW.loop {T : Tab} {c : Code} {P : Ex → Lf → Prop} (Inv : Nat → Lf → Prop) (round : ∀ n x, Inv n x → RunsW T c x fun e y => match e with | none => ∃ n', n' < n ∧ Inv n' y | some e => P (some e) y) {n : Nat} {x : Lf} (h0 : Inv n x) :
    RunsW T (.loop c) x P := by
  have key : ∀ N n x, n < N → Inv n x → ∀ m B a w, Rel m B x a w → ∀ Q : Exit → Act → World → Prop, (∀ e y, P e y → ∀ m' a' w', Rel m' B y a' w' → Below B w w' → Q (out e) a' w') → Code.rounds T.P c Q N a w := by
    intro N
    induction N with
    | zero => intro n x hn; omega
    | succ N ih =>
      intro n x hn hI m B a w R Q hQ
      rw [rounds_succ]
      refine round n x hI m B a w R _ fun e y he m' a' w' hR hb => ?_
      match e, he with
      | none, he =>
        obtain ⟨n', hn', hI'⟩ := he
        exact ih n' y (by omega) hI' m' B a' w' hR Q fun e' y' he' m'' a'' w'' hR' hb' => hQ e' y' he' m'' a'' w'' hR' (hb.trans hb')
      | some none, he => exact hQ _ _ he m' a' w' hR hb
      | some (some id), he => exact hQ _ _ he m' a' w' hR hb
  intro m B a w R Q hQ
  exact wp_loop_rounds (n + 1) (key (n + 1) n x (by omega) h0 m B a w R Q hQ)
theorem RunsW.script {T : Tab} {c : Code} {t : List Value} {h : Hp} {s s' : List Dec} {P : Ex → Lf → Prop} (hr : RunsW T c (t, h, s) P) : RunsW T c (t, h, s') P :=
  fun m B a w R Q hQ => hr m B a w ⟨R.tmps, R.dfr, R.emb, R.wf⟩ Q hQ
/-! ### values that point into some blocks alone -/
def oc1 (bs : List Nat) : Value → Bool
  | .pointer (some a) => bs.contains a.block
  | .slice (some a) _ _ => bs.contains a.block
  | .map (some b) => bs.contains b
  | .iface t _ => !(Nat.beq t dead)
  | _ => true
def oc2 (bs : List Nat) : Value → Bool
  | .agg cs => cs.toList.all (oc1 bs)
  | v => oc1 bs v
def oc (bs : List Nat) : Value → Bool
  | .tuple vs => vs.toList.all (oc2 bs)
  | v => oc2 bs v
theorem mv1_on {m m' : Mp} {bs : List Nat} (h : ∀ b ∈ bs, m b = m' b) {v : Value} (hv : oc1 bs v = true) : mv1 m v = mv1 m' v := by
  unfold mv1
  split
  · simp only [oc1, List.contains_iff_mem] at hv; simp [mvA, h _ hv]
  · simp only [oc1, List.contains_iff_mem] at hv; simp [mvA, h _ hv]
  · simp only [oc1, List.contains_iff_mem] at hv; simp [h _ hv]
  · rfl
  · rfl
theorem mv2_on {m m' : Mp} {bs : List Nat} (h : ∀ b ∈ bs, m b = m' b) {v : Value} (hv : oc2 bs v = true) : mv2 m v = mv2 m' v := by
  unfold mv2
  split
  · rename_i cs
    simp only [oc2, List.all_eq_true] at hv
    congr 1
    exact Array.map_congr_left fun x hx => mv1_on h (hv x (by simpa using hx))
  · rename_i hna
    refine mv1_on h ?_
    unfold oc2 at hv
    split at hv
    · rename_i cs; exact absurd rfl (hna cs)
    · exact hv
theorem mv_on {m m' : Mp} {bs : List Nat} (h : ∀ b ∈ bs, m b = m' b) {v : Value} (hv : oc bs v = true) : mv m v = mv m' v := by
  unfold mv
  split
  · rename_i vs
    simp only [oc, List.all_eq_true] at hv
    congr 1
    exact Array.map_congr_left fun x hx => mv2_on h (hv x (by simpa using hx))
  · rename_i hna
    refine mv2_on h ?_
    unfold oc at hv
    split at hv
    · rename_i cs; exact absurd rfl (hna cs)
    · exact hv
theorem oc_ren {bs : List Nat} {f : Nat → Nat} {n : Nat} (hf : ∀ b ∈ bs, f b < n) {v : Value} (hv : oc bs v = true) : lt n (rn f v) = true := by
  have h1 : ∀ v, oc1 bs v = true → lt1 n (rn1 f v) = true := fun v h => by
    cases v with
    | pointer a =>
      cases a with
      | none => rfl
      | some a => simp only [oc1, List.contains_iff_mem] at h; exact blt_iff.2 (hf _ h)
    | map a =>
      cases a with
      | none => rfl
      | some a => simp only [oc1, List.contains_iff_mem] at h; exact blt_iff.2 (hf _ h)
    | slice a l c =>
      cases a with
      | none => rfl
      | some a => simp only [oc1, List.contains_iff_mem] at h; exact blt_iff.2 (hf _ h)
    | iface t u => simp only [oc1, Bool.not_eq_true'] at h; simp [rn1, lt1, h]
    | _ => rfl
  have h2 : ∀ v, oc2 bs v = true → lt2 n (rn2 f v) = true := fun v h => by
    cases v with
    | agg cs =>
      simp only [oc2, lt2, rn2, Array.toList_map, List.all_eq_true, List.mem_map] at *
      rintro _ ⟨y, hy, rfl⟩
      exact h1 y (h y hy)
    | pointer a =>
      cases a with
      | none => rfl
      | some a => exact h1 (.pointer (some a)) h
    | map a =>
      cases a with
      | none => rfl
      | some a => exact h1 (.map (some a)) h
    | slice a l c =>
      cases a with
      | none => rfl
      | some a => exact h1 (.slice (some a) l c) h
    | iface t u => exact h1 (.iface t u) h
    | _ => rfl
  cases v with
  | tuple cs =>
    simp only [oc, lt, rn, Array.toList_map, List.all_eq_true, List.mem_map] at *
    rintro _ ⟨y, hy, rfl⟩
    exact h2 y (hv y hy)
  | agg cs => exact h2 (.agg cs) hv
  | pointer a =>
    cases a with
    | none => rfl
    | some a => exact h1 (.pointer (some a)) hv
  | map a =>
    cases a with
    | none => rfl
    | some a => exact h1 (.map (some a)) hv
  | slice a l c =>
    cases a with
    | none => rfl
    | some a => exact h1 (.slice (some a) l c) hv
  | iface t u => exact h1 (.iface t u) hv
  | _ => rfl
/-! ### the smallest memory -/
/-- these rows are there: block i's cells are the first of block s i's -/
def Hp.fits (h0 : Hp) (s : Nat → Nat) (h : Hp) : Prop := ∀ i x, h0.blk? i = some x → tomb x.2 = false → ∃ y r, h.blk? (s i) = some y ∧ tomb y.2 = false ∧ rt y.2 = rt x.2 ∧ y.1 = x.1 ++ r
/-- a 'for', its memory made small behind each round -/
theorem RunsW.forLoop {T : Tab} {c : Code} {id : Nat} {x : Lf} {P : Lf → Prop} {R : Lf → Prop} (Inv : Nat → Lf → Prop)
    (round : ∀ n x, Inv n x → RunsW T c x fun e y => match e with | none => ∃ n', n' < n ∧ Inv n' y | some none => R y | some (some id') => id' = id ∧ P y) {n : Nat} (h0 : Inv n x) :
    RunsW T (.block id (.loop c)) x fun e y => match e with | none => P y | some none => R y | some (some _) => False := by
  refine RunsW.block (P1 := fun e y => match e with | none => False | some none => R y | some (some id') => id' = id ∧ P y) ?_ (fun y he => he.elim) (fun y he => he) (fun y he => he.2) (fun id' y hid he => absurd he.1 hid)
  refine RunsW.loop Inv (fun n x hI => (round n x hI).mono fun e y he => ?_) h0
  match e, he with
  | none, he => exact he
  | some none, he => exact he
  | some (some id'), he => exact he
theorem goesT_runsW {T : Tab} (hT : TabOk T) {N : Nat} {c : Code} {t : List Value} {h h' : Hp} {s s0 : List Dec} {k n : Nat} {e : Ex} {front : List Value} {cs : Log} (hG : GoesT (evC T N false c (t, h, s) ⟨[], [], []⟩) k n e front h' cs) (hcs : okLog cs) :
    RunsW T c (t, h, s0) fun e' y => e' = e ∧ (∃ g, y.1 = front ++ tl n g) ∧ y.2.1 = h' := (goesT_runs hT hG hcs).w
theorem tl_len (n : Nat) (g : Nat → Value) : (tl n g).length = n := by simp [tl]
theorem blkTwo {x y : List Value × TypeId} {i : Nat} {z : List Value × TypeId} (h : (⟨2, [y, x]⟩ : Hp).blk? i = some z) : (i = 0 ∧ z = x) ∨ (i = 1 ∧ z = y) := by
  have : i < 2 := Hp.blk_lt h
  have : i = 0 ∨ i = 1 := by omega
  rcases this with rfl | rfl
  · exact .inl ⟨rfl, (Option.some.inj h).symm⟩
  · exact .inr ⟨rfl, (Option.some.inj h).symm⟩
/-- temporaries, some of which nothing is known -/
def fillO : (Nat → Value) → List (Option Value) → List Value
  | _, [] => []
  | j, o :: r => o.getD (j 0) :: fillO (fun i => j (i + 1)) r
def matO (f : Nat → Nat) : List (Option Value) → List Value → Prop
  | [], [] => True
  | some u :: r, v :: s => rn f u = v ∧ matO f r s
  | none :: r, _ :: s => matO f r s
  | _, _ => False
theorem fill_mat {m : Mp} {f : Nat → Nat} {k : Nat} (hk : 0 < k) : ∀ (o : List (Option Value)) (t : List Value), matO f o t → (∀ v, some v ∈ o → lt k v = true) → ∃ j, (fillO j o).map (mv fun i => m (f i)) = t.map (mv m) ∧ ∀ v ∈ fillO j o, lt k v = true
  | [], [], _, _ => ⟨fun _ => undef, rfl, fun v hv => by cases hv⟩
  | [], _ :: _, h, _ => h.elim
  | some _ :: _, [], h, _ => h.elim
  | none :: _, [], h, _ => h.elim
  | some u :: r, v :: s, h, hl => by
    obtain ⟨h1, h2⟩ := h
    obtain ⟨j, e1, e2⟩ := fill_mat (m := m) hk r s h2 fun x hx => hl x (List.mem_cons_of_mem _ hx)
    refine ⟨fun i => match i with | 0 => undef | i + 1 => j i, ?_, ?_⟩
    · show mv (fun i => m (f i)) u :: (fillO j r).map (mv fun i => m (f i)) = mv m v :: s.map (mv m)
      rw [e1, ← h1, mv_rn]
    · intro x hx
      rcases List.mem_cons.1 (show x ∈ u :: fillO j r from hx) with rfl | hx
      · exact hl x List.mem_cons_self
      · exact e2 x hx
  | none :: r, v :: s, h, hl => by
    obtain ⟨j, e1, e2⟩ := fill_mat (m := m) hk r s h fun x hx => hl x (List.mem_cons_of_mem _ hx)
    refine ⟨fun i => match i with | 0 => .iface dead (mv m v) | i + 1 => j i, ?_, ?_⟩
    · show mv (fun i => m (f i)) (.iface dead (mv m v)) :: (fillO j r).map (mv fun i => m (f i)) = mv m v :: s.map (mv m)
      rw [e1]
      simp [mv, mv2, mv1]
    · intro x hx
      rcases List.mem_cons.1 (show x ∈ Value.iface dead (mv m v) :: fillO j r from hx) with rfl | hx
      · simp [lt, lt2, lt1, hk, dead]
      · exact e2 x hx
/-- a memory made small: blocks with addresses in them, too -/
theorem compactR {m : Mp} {B : Nat} {t t' : List Value} {h h' : Hp} {s : List Dec} {a : Act} {w : World} (R : Rel m B (t, h, s) a w) (f : Nat → Nat) (hl : h'.l.length = h'.n)
    (hb : ∀ i x, h'.blk? i = some x → (x.1.all (lt1 h'.n)) = true ∧ h.blk? (f i) = some (x.1.map (rn1 f), x.2))
    (hi : ∀ i j x y, h'.blk? i = some x → h'.blk? j = some y → f i = f j → i = j)
    (ht : t'.map (mv fun i => m (f i)) = t.map (mv m)) (hw : ∀ v ∈ t', lt h'.n v = true) : Rel (fun i => m (f i)) B (t', h', s) a w := by
  have E := R.emb
  have em : ∀ l : List Value, (l.map (rn1 f)).map (mv1 m) = l.map (mv1 fun i => m (f i)) := fun l => by
    rw [List.map_map]
    exact List.map_congr_left fun v _ => mv1_rn m f v
  refine ⟨by rw [R.tmps]; simp only; rw [ht], R.dfr, ⟨hl, ?_, ?_, ?_, ?_, ?_, E.base, E.ice, ?_⟩, hw⟩
  · intro b x hx ht
    have := E.lies (f b) _ (hb b x hx).2 ht
    rw [em] at this
    exact this
  · intro b x hx hr
    exact E.low (f b) _ (hb b x hx).2 hr
  · intro b x hx ht hr
    exact E.ros (f b) _ (hb b x hx).2 ht hr
  · intro b b' x x' hx hx' hr hr' he
    exact hi b b' x x' hx hx' (E.inj _ _ _ _ (hb b x hx).2 (hb b' x' hx').2 hr hr' he)
  · intro b x hx v hv
    exact List.all_eq_true.1 (hb b x hx).1 v hv
  · intro b x hx ha
    exact (E.abs (f b) _ (hb b x hx).2 ha).ren (f := f) (r := []) rfl (by rw [List.append_nil]; exact em _) (fun c z hz => ⟨_, (hb c z hz).2, rfl⟩) fun c z hz _ _ hc => hi c b z x hz hx hc
theorem blk_pick {bs : List Nat} {cells : List (List Value × TypeId)} (hl : cells.length = bs.length) {i : Nat} {x : List Value × TypeId} (h : (⟨bs.length, cells.reverse⟩ : Hp).blk? i = some x) : i < bs.length ∧ (bs.getD i 0, x) ∈ bs.zip cells := by
  have hi : i < bs.length := Hp.blk_lt h
  refine ⟨hi, ?_⟩
  unfold Hp.blk? at h
  rw [if_pos (blt_iff.2 hi)] at h
  have h' : cells.reverse[bs.length - 1 - i]? = some x := h
  rw [List.getElem?_reverse (by omega), show cells.length - 1 - (bs.length - 1 - i) = i by omega] at h'
  refine List.mem_of_getElem? (i := i) ?_
  rw [List.getElem?_zip_eq_some]
  exact ⟨by rw [List.getD_eq_getElem?_getD, List.getElem?_eq_getElem hi]; rfl, h'⟩
theorem rn_undef (f : Nat → Nat) : rn f undef = undef := by kernel_rfl
end Go.KRun
namespace Go.Proofs.YtlmccannfocniaaDoor
open Go.KRun
theorem names : (Tryd.prog.funcs.toList.all fun F => !(F.name == "runtime.NumGoroutine")) = true := by kernel_rfl
theorem fns_ok (f : Nat) (F : Func) (h : Tryd.prog.funcs[f]? = some F) : Tryd.prog.funcs[f]? = some F ∧ (F.name == "runtime.NumGoroutine") = false :=
  ⟨h, by simpa using List.all_eq_true.1 names F (by simpa using Array.mem_of_getElem? h)⟩
def extY : Nat → List Value → Option (Value × Log) := fun _ _ => none
theorem extY_ok (f : Nat) (vals : List Value) (v : Value) (lg : Log) (h : extY f vals = some (v, lg)) (_hl : okLog lg) (w : World) : (callFunc f vals.toArray).run Tryd.prog w = .ok (.value v) w := by cases h
/-- what is known of calls -/
abbrev Con := Nat → List Value → List Dec → Option (Value × List Dec × Log)
structure ConOk (con : Con) : Prop where
  fn : ∀ f vals s v s' lg, con f vals s = some (v, s', lg) → ∃ F, Tryd.prog.funcs[f]? = some F ∧ F.body.isSome = true
  calls : ∀ f vals s v s' lg, con f vals s = some (v, s', lg) → okLog lg → ∀ w, Calls Tryd.prog f vals.toArray w fun e w' => e = .returned v ∧ Tidy w w'
def conN : Con := fun _ _ _ => none
theorem conN_ok : ConOk conN where
  fn := fun _ _ _ _ _ _ h => by simp [conN] at h
  calls := fun _ _ _ _ _ _ h => by simp [conN] at h
/-- the table of a program: 'sym': numbers may be letters -/
def tabOf (P : Program) (ext : Nat → List Value → Option (Value × Log)) (con : Con) (sym : Bool) : Tab := { P := P, fn := fun f => P.funcs[f]?, ext := ext, con := con, sym := sym }
theorem mixed : Tryd.prog.follows .mixedOrders = true := by kernel_rfl
theorem tabY_ok {con : Con} (h : ConOk con) : TabOk (tabOf Tryd.prog extY con true) where
  mixed := mixed
  ext := extY_ok
  con := fun f vals s v s' lg hc hl => ⟨by obtain ⟨F, h1, h2⟩ := h.fn f vals s v s' lg hc; exact ⟨F, (fns_ok f F h1).1, (fns_ok f F h1).2, h2⟩, h.calls f vals s v s' lg hc hl⟩
  fn := fns_ok
  hc := fun _ _ _ _ _ _ _ _ h => by cases h
abbrev Ans := List Value → List Dec → Option (Value × List Dec × Log)
end Go.Proofs.YtlmccannfocniaaDoor
namespace Go.Proofs.YtlmccannfocniaaDoor
open Go.KRun
set_option maxRecDepth 100000
theorem okOne {p : Bool × Bool} (h : p.1 = p.2) : okLog [p] := fun x hx => by rw [List.mem_singleton.1 hx]; exact h
theorem okTwo {p : Bool × Bool} {l : Log} (h : p.1 = p.2) (hl : okLog l) : okLog (p :: l) := fun x hx => by
  rcases List.mem_cons.1 hx with rfl | hx
  · exact h
  · exact hl x hx
theorem wrapI {n : Int} (h0 : -9223372036854775808 ≤ n) (h1 : n ≤ 9223372036854775807) : IntKind.i64.wrap n = n := by
  simp [IntKind.wrap, IntKind.bits, IntKind.signed]; omega
/-! ### what is known of calls with rows -/
abbrev Hc := Nat → List Value → Hp → List Dec → Option (Value × Hp × List Dec × Log)
abbrev AnsH := List Value → Hp → List Dec → Option (Value × Hp × List Dec × Log)
def AnsHOk (f : Nat) (g : AnsH) : Prop := ∀ vals h s v h' s' lg, g vals h s = some (v, h', s', lg) → okLog lg → ∀ m B w, Emb m B h w → (∀ v ∈ vals, lt h.n v = true) → Calls Tryd.prog f (vals.map (mv m)).toArray w fun e w' => ∃ m', e = .returned (mv m' v) ∧ Came m B h w v h' m' w'
structure HcOk (hc : Hc) : Prop where
  fn : ∀ f vals h s r, hc f vals h s = some r → ∃ F, Tryd.prog.funcs[f]? = some F ∧ F.body.isSome = true
  calls : ∀ f, AnsHOk f (hc f)
def hcN : Hc := fun _ _ _ _ => none
theorem hcN_ok : HcOk hcN := ⟨fun _ _ _ _ _ h => (by cases h), fun _ _ _ _ _ _ _ _ h => (by cases h)⟩
def altH (f : Nat) (g : AnsH) (hc : Hc) : Hc := fun f' vals h s => if Nat.beq f' f = true then g vals h s else hc f' vals h s
theorem altH_ok {f : Nat} {F : Func} (hF : Tryd.prog.funcs[f]? = some F) (hb : F.body.isSome = true) {g : AnsH} (hg : AnsHOk f g) {hc : Hc} (h : HcOk hc) : HcOk (altH f g hc) where
  fn := fun f' vals h' s r hr => by
    unfold altH at hr
    split at hr
    · rename_i e
      rw [Nat.eq_of_beq_eq_true e]
      exact ⟨F, hF, hb⟩
    · exact h.fn _ _ _ _ _ hr
  calls := fun f' vals h' s v h'' s' lg hr => by
    unfold altH at hr
    split at hr
    · rename_i e
      rw [Nat.eq_of_beq_eq_true e]
      exact hg _ _ _ _ _ _ _ hr
    · exact h.calls f' _ _ _ _ _ _ _ hr
def tabH (P : Program) (ext : Nat → List Value → Option (Value × Log)) (con : Con) (hc : Hc) : Tab := { P := P, fn := fun f => P.funcs[f]?, ext := ext, con := con, sym := true, hc := hc }
theorem tabH_ok {con : Con} (h : ConOk con) {hc : Hc} (hh : HcOk hc) : TabOk (tabH Tryd.prog extY con hc) where
  mixed := mixed
  ext := extY_ok
  con := fun f vals s v s' lg hc hl => ⟨by obtain ⟨F, h1, h2⟩ := h.fn f vals s v s' lg hc; exact ⟨F, (fns_ok f F h1).1, (fns_ok f F h1).2, h2⟩, h.calls f vals s v s' lg hc hl⟩
  fn := fns_ok
  hc := fun f vals h0 s v h' s' lg hr hl => ⟨by obtain ⟨F, h1, h2⟩ := hh.fn f vals h0 s _ hr; exact ⟨F, (fns_ok f F h1).1, (fns_ok f F h1).2, h2⟩, hh.calls f vals h0 s v h' s' lg hr hl⟩
end Go.Proofs.YtlmccannfocniaaDoor
namespace Go.KRun
theorem RunsW.cond {T : Tab} {b : Operand} {c1 c2 : Code} {x : Lf} {P : Ex → Lf → Prop} (v : Bool) (hb : okX b = true) (hv : ev x.1 b = .bool v) (h : RunsW T (match v with | true => c1 | false => c2) x P) : RunsW T (.cond b c1 c2) x P := by
  intro m B a w R Q hQ
  have hev : a.eval b = .bool v := by rw [eval_mv R.tmps hb, hv]; simp [mv, mv2, mv1]
  cases v
  · exact wp_cond_false hev (h m B a w R Q hQ)
  · exact wp_cond_true hev (h m B a w R Q hQ)
def cThn : Code → Code
  | .cond _ a _ => a
  | c => c
end Go.KRun
namespace Go.Proofs.YtlmccannfocniaaDoor
open Go.KRun Go.RowKit
theorem calls_of_startW {T : Tab} {f : Nat} {F : Func} {c : Code} (hF : T.P.funcs[f]? = some F) (hc : F.body = some c) {h0 : Hp} {vals : List Value} (hvals : ∀ v ∈ vals, lt h0.n v = true) {v : Value} (hv : lt 0 v = true)
    (hrun : RunsW T c (vals ++ List.replicate (F.ntmps - vals.length) undef, h0, []) fun e y => (e = none ∨ e = some none) ∧ resS T.P F y.1 y.2.1 = some v)
    {m : Mp} {w : World} (E : Emb m w.heap.size h0 w) :
    Calls T.P f (vals.map (mv m)).toArray w fun e w' => e = .returned v ∧ Tidy w w' := by
  refine calls_of_wp hF hc ?_
  have R : Rel m w.heap.size (vals ++ List.replicate (F.ntmps - vals.length) undef, h0, []) { tmps := (vals.map (mv m)).toArray ++ Array.replicate (F.ntmps - (vals.map (mv m)).toArray.size) undef, defers := [] } w := by
    refine ⟨?_, rfl, E, ?_⟩
    · simp [mv_undef]
    · intro y hy
      rcases List.mem_append.1 hy with hy | hy
      · exact hvals y hy
      · rw [List.eq_of_mem_replicate hy]; simp [undef, lt]
  refine hrun _ _ _ w R _ fun e y he m1 a' w' k2 k3 => ?_
  obtain ⟨hex, hres⟩ := he
  obtain ⟨r1, r2⟩ := resS_run k2.emb k2.wf hres
  rw [← k2.tmps, mv_still hv] at r1
  have td : Tidy w w' := ⟨k3, fun k h1 h2 => k2.emb.ice k h1 h2⟩
  have post : a'.defers = [] ∧ ∃ v', (results F a'.tmps).run T.P w' = .ok v' w' ∧ (Ending.returned v' = .returned v ∧ Tidy w w') := ⟨k2.dfr, _, r1, rfl, td⟩
  rcases hex with rfl | rfl <;> exact post
end Go.Proofs.YtlmccannfocniaaDoor
namespace Go.KRun
open Go.RowKit
/-- a reckoned piece, ahead of the rest -/
theorem RunsW.goes {T : Tab} (hT : TabOk T) {N : Nat} {c1 c2 : Code} {t : List Value} {h h' : Hp} {s s0 : List Dec} {k n : Nat} {front : List Value} {cs : Log} {P : Ex → Lf → Prop} (hG : GoesT (evC T N false c1 (t, h, s) ⟨[], [], []⟩) k n none front h' cs) (hcs : okLog cs)
    (h2 : ∀ g, RunsW T c2 (front ++ tl n g, h', []) P) : RunsW T (.seq c1 c2) (t, h, s0) P :=
  RunsW.seq (goesT_runsW hT hG hcs) (fun y hy => by
    obtain ⟨t', h1, s'⟩ := y
    obtain ⟨_, ⟨g, e1⟩, e2⟩ := hy
    simp only at e1 e2
    subst e1 e2
    exact RunsW.script (h2 g)) (fun e y hy => by cases hy.1)
/-- a reckoned piece, with what follows from where it ends -/
theorem RunsW.ends {T : Tab} (hT : TabOk T) {N : Nat} {c : Code} {t : List Value} {h h' : Hp} {s s0 : List Dec} {k n : Nat} {e : Ex} {front : List Value} {cs : Log} {P : Ex → Lf → Prop} (hG : GoesT (evC T N false c (t, h, s) ⟨[], [], []⟩) k n e front h' cs) (hcs : okLog cs)
    (h2 : ∀ g s', P e (front ++ tl n g, h', s')) : RunsW T c (t, h, s0) P :=
  (goesT_runsW hT hG hcs).mono fun e' y hy => by
    obtain ⟨t', h1, s'⟩ := y
    obtain ⟨rfl, ⟨g, e1⟩, e2⟩ := hy
    simp only at e1 e2
    subst e1 e2
    exact h2 g s'
/-- behind a piece of code: some blocks are kept, by their numbers -/
theorem RunsW.cutP {T : Tab} {c : Code} {x0 : Lf} {ex : Ex} {front : List Value} {n : Nat} {h : Hp} (hr : RunsW T c x0 fun e z => e = ex ∧ (∃ g, z.1 = front ++ tl n g) ∧ z.2.1 = h) (o : List (Option Value)) (bs : List Nat) (cells : List (List Value × TypeId))
    (hl : cells.length = bs.length) (h0 : 0 < bs.length) (hf : matO (fun i => bs.getD i 0) o front) (hx : ∀ q ∈ bs.zip cells, (q.2.1.all (lt1 bs.length)) = true ∧ h.blk? q.1 = some (q.2.1.map (rn1 fun i => bs.getD i 0), q.2.2)) (hd : bs.Nodup) (hw : (o.all fun x => x.all (lt bs.length)) = true) :
    RunsW T c x0 fun e z => e = ex ∧ (∃ j g, z.1 = fillO j o ++ tl n g) ∧ z.2.1 = ⟨bs.length, cells.reverse⟩ := by
  intro m B a w R Q hQ
  refine hr m B a w R Q fun e z he m' a' w' R' hb' => ?_
  obtain ⟨rfl, ⟨g, hz1⟩, hz2⟩ := he
  obtain ⟨t, h1, s⟩ := z
  simp only at hz1 hz2
  subst hz1 hz2
  obtain ⟨j, j1, j2⟩ := fill_mat (m := m') h0 o front hf fun v hv => List.all_eq_true.1 hw _ hv
  obtain ⟨g', hg⟩ := tl_of (J := (tl n g).map (fun v => Value.iface dead (mv m' v))) (n := n) (by simp [tl_len])
  have R2 : Rel (fun i => m' (bs.getD i 0)) B (fillO j o ++ tl n g', ⟨bs.length, cells.reverse⟩, s) a' w' := by
    refine compactR R' (fun i => bs.getD i 0) (by simp [hl]) (fun i x hi => ?_) (fun i k x y hi hk hik => ?_) ?_ ?_
    · obtain ⟨_, q⟩ := blk_pick hl hi
      exact hx _ q
    · obtain ⟨q1, _⟩ := blk_pick hl hi
      obtain ⟨q2, _⟩ := blk_pick hl hk
      have e1 : bs.getD i 0 = bs[i] := by rw [List.getD_eq_getElem?_getD, List.getElem?_eq_getElem q1]; rfl
      have e2 : bs.getD k 0 = bs[k] := by rw [List.getD_eq_getElem?_getD, List.getElem?_eq_getElem q2]; rfl
      rw [e1, e2] at hik
      have hp := List.pairwise_iff_getElem.1 hd
      rcases Nat.lt_trichotomy i k with c | c | c
      · exact absurd hik (hp i k q1 q2 c)
      · exact c
      · exact absurd hik.symm (hp k i q2 q1 c)
    · rw [List.map_append, List.map_append, j1, ← hg, List.map_map]
      congr 1
    · intro v hv
      rcases List.mem_append.1 hv with hv | hv
      · exact j2 v hv
      · rw [← hg] at hv
        obtain ⟨u, _, rfl⟩ := List.mem_map.1 hv
        simp [lt, lt2, lt1, h0, dead]
  exact hQ e _ ⟨rfl, ⟨j, g', rfl⟩, rfl⟩ _ a' w' ⟨R2.tmps, R2.dfr, R2.emb, R2.wf⟩ hb'
theorem kept_x19 {h : Hp} {b : Nat} {x : List Value × TypeId} (hs : ∀ v ∈ x.1, still v = true) (hb : h.blk? b = some x) (f : Nat → Nat) {k : Nat} (hk : 0 < k) : (x.1.all (lt1 k)) = true ∧ h.blk? b = some (x.1.map (rn1 f), x.2) := by
  refine ⟨List.all_eq_true.2 fun v hv => still_lt hk (hs v hv), ?_⟩
  have e : ∀ v ∈ x.1, rn1 f v = v := fun v hv => by
    have h' := hs v hv
    cases v with
    | pointer a => cases a <;> simp_all [still, rn1]
    | slice a l c => cases a <;> simp_all [still, rn1]
    | map a => cases a <;> simp_all [still, rn1]
    | _ => rfl
  rw [show x.1.map (rn1 f) = x.1 from (List.map_congr_left e).trans (List.map_id' _)]
  exact hb
/-- a small memory of rows and tables -/
theorem Emb.smallB {m : Mp} {B : Nat} {h h0 : Hp} {w : World} {s : Nat → Nat} (E : Emb m B h w) (hl : h0.l.length = h0.n) (hr : ∀ b x, h0.blk? b = some x → ro x.2 = true ∧ ∀ v ∈ x.1, still v = true) (hf : h0.fits s h)
    (ha : ∀ b x, h0.blk? b = some x → ab x.2 = true → spK x.2 = false ∧ h.blk? (s b) = some x) : Emb (fun i => m (s i)) w.heap.size h0 w where
  len := hl
  lies := fun b x hb hx => by
    obtain ⟨y, r, h1, h2, h3, h4⟩ := hf b x hb hx
    obtain ⟨r', z, l0, l1, _⟩ := E.lies _ _ h1 h2
    have calm := (hr b x hb).2
    have e : x.1.map (mv1 m) = x.1.map (mv1 fun i => m (s i)) := still_map calm
    rw [h4, List.map_append] at l0 l1
    refine ⟨r.map (mv1 m) ++ r', z, ?_, ?_, fun hro => ?_⟩
    · simp at l0 ⊢; omega
    · rw [← e, l1, List.append_assoc]
    · rw [(hr b x hb).1] at hro; cases hro
  low := fun b x hb hro => by rw [(hr b x hb).1] at hro; cases hro
  ros := fun b x hb hx _ => by
    obtain ⟨y, r, h1, h2, _, _⟩ := hf b x hb hx
    exact E.here h1 h2
  inj := fun b b' x x' hb _ hro => by rw [(hr b x hb).1] at hro; cases hro
  wf := fun b x hb v hv => still_lt (Nat.lt_of_le_of_lt (Nat.zero_le _) (Hp.blk_lt hb)) ((hr b x hb).2 v hv)
  base := Nat.le_refl _
  ice := fun k h1 h2 => by omega
  abs := fun b x hb hx => by
    obtain ⟨h1, h2⟩ := ha b x hb hx
    obtain ⟨q1, q2⟩ := (E.abs _ _ h2 hx).1 h1
    have e : x.1.map (mv1 m) = x.1.map (mv1 fun i => m (s i)) := still_map (hr b x hb).2
    rw [e] at q2
    exact .of h1 ⟨Nat.lt_of_lt_of_le q1 E.base, q2⟩
/-- a call that begins with rows and a table: its answer holds no address -/
theorem row_calls0E {T : Tab} {f : Nat} {F : Func} {c : Code} (hF : T.P.funcs[f]? = some F) (hc : F.body = some c) {h0 : Hp} {vals : List Value} (hvals : ∀ v ∈ vals, lt h0.n v = true) {v : Value} (hv : lt 0 v = true)
    (hrun : RunsW T c (vals ++ List.replicate (F.ntmps - vals.length) undef, h0, []) fun e y => (e = none ∨ e = some none) ∧ resS T.P F y.1 y.2.1 = some v)
    {m : Mp} {B : Nat} {h : Hp} {w : World} (E : Emb m B h w) {s : Nat → Nat} (E0 : Emb (fun i => m (s i)) w.heap.size h0 w) :
    Calls T.P f ((vals.map (rn s)).map (mv m)).toArray w fun e w' => ∃ m', e = .returned (mv m' v) ∧ Came m B h w v h m' w' := by
  have ev : (vals.map (rn s)).map (mv m) = vals.map (mv fun i => m (s i)) := by
    rw [List.map_map]
    exact List.map_congr_left fun y _ => mv_rn m s y
  rw [ev]
  refine calls_of_wp hF hc ?_
  have R : Rel (fun i => m (s i)) w.heap.size (vals ++ List.replicate (F.ntmps - vals.length) undef, h0, []) { tmps := (vals.map (mv fun i => m (s i))).toArray ++ Array.replicate (F.ntmps - (vals.map (mv fun i => m (s i))).toArray.size) undef, defers := [] } w := by
    refine ⟨?_, rfl, E0, ?_⟩
    · simp [mv_undef]
    · intro y hy
      rcases List.mem_append.1 hy with hy | hy
      · exact hvals y hy
      · rw [List.eq_of_mem_replicate hy]; simp [undef, lt]
  refine hrun _ _ _ w R _ fun e y he m1 a' w' k2 k3 => ?_
  obtain ⟨hex, hres⟩ := he
  obtain ⟨r1, r2⟩ := resS_run k2.emb k2.wf hres
  rw [← k2.tmps, mv_still hv] at r1
  have td : Tidy w w' := ⟨k3, fun k h1 h2 => k2.emb.ice k h1 h2⟩
  obtain ⟨E', hb⟩ := clean_emb E td
  have post : a'.defers = [] ∧ ∃ v', (results F a'.tmps).run T.P w' = .ok v' w' ∧ ∃ m', Ending.returned v' = .returned (mv m' v) ∧ Came m B h w v h m' w' :=
    ⟨k2.dfr, _, r1, m, by rw [mv_still hv], ⟨Agree.refl _ _, E', hb, Nat.le_refl _, lt_mono (Nat.zero_le _) hv⟩⟩
  rcases hex with rfl | rfl <;> exact post
/-- the same, where one block of the call's own is kept -/
theorem row_calls1E {T : Tab} {f : Nat} {F : Func} {c : Code} (hF : T.P.funcs[f]? = some F) (hc : F.body = some c) {h0 : Hp} {vals : List Value} (hvals : ∀ v ∈ vals, lt h0.n v = true) {v : Value} {k : Nat}
    {cs : List Value} {ty : TypeId} (hcs : ∀ u ∈ cs, lt1 0 u = true) (hty : ro ty = false)
    (hrun : RunsW T c (vals ++ List.replicate (F.ntmps - vals.length) undef, h0, []) fun e y => (e = none ∨ e = some none) ∧ resS T.P F y.1 y.2.1 = some v ∧ ∃ r, y.2.1.blk? k = some (cs ++ r, ty))
    (hv0 : oc [k] v = true)
    {m : Mp} {B : Nat} {h : Hp} {w : World} (E : Emb m B h w) {s : Nat → Nat} (E0 : Emb (fun i => m (s i)) w.heap.size h0 w) :
    Calls T.P f ((vals.map (rn s)).map (mv m)).toArray w fun e w' => ∃ m', e = .returned (mv m' (rn (fun _ => h.n) v)) ∧ Came m B h w (rn (fun _ => h.n) v) (h.push cs ty) m' w' := by
  have ev : (vals.map (rn s)).map (mv m) = vals.map (mv fun i => m (s i)) := by
    rw [List.map_map]
    exact List.map_congr_left fun y _ => mv_rn m s y
  rw [ev]
  refine calls_of_wp hF hc ?_
  have R : Rel (fun i => m (s i)) w.heap.size (vals ++ List.replicate (F.ntmps - vals.length) undef, h0, []) { tmps := (vals.map (mv fun i => m (s i))).toArray ++ Array.replicate (F.ntmps - (vals.map (mv fun i => m (s i))).toArray.size) undef, defers := [] } w := by
    refine ⟨?_, rfl, E0, ?_⟩
    · simp [mv_undef]
    · intro y hy
      rcases List.mem_append.1 hy with hy | hy
      · exact hvals y hy
      · rw [List.eq_of_mem_replicate hy]; simp [undef, lt]
  refine hrun _ _ _ w R _ fun e y he m1 a' w' k2 k3 => ?_
  obtain ⟨hex, hres, r, hblk⟩ := he
  obtain ⟨r1, r2⟩ := resS_run k2.emb k2.wf hres
  rw [← k2.tmps] at r1
  have td : Tidy w w' := ⟨k3, fun k h1 h2 => k2.emb.ice k h1 h2⟩
  obtain ⟨E', hb⟩ := clean_emb E td
  have hlow : w.heap.size ≤ (m1 k).1 := k2.emb.low k _ hblk hty
  have hlie : lie w' (m1 k) (cs.map (mv1 m)) ty := by
    obtain ⟨r', z, l0, l1, l2⟩ := k2.emb.lies k _ hblk (tomb_ro hty)
    have e : cs.map (mv1 m1) = cs.map (mv1 m) := map_still hcs
    simp only [List.map_append] at l0 l1
    refine ⟨r.map (mv1 m1) ++ r', z, ?_, ?_, l2⟩
    · simp at l0 ⊢; omega
    · rw [← e, l1, List.append_assoc]
  have Ea := E'.adopt cs ty hty (fun u hu => lt1_mono (Nat.zero_le _) (hcs u hu)) hlie (Nat.le_trans E.base hlow) (fun b x hbx hx heq => by
    have := E.here hbx (tomb_ro hx)
    omega) (fun b x hbx hx hf => by
    have := E.at_ hbx hx hf
    omega)
  have e1 : mv m1 v = mv (upd m h.n (m1 k)) (rn (fun _ => h.n) v) := by
    rw [mv_rn]
    refine mv_on (fun b hb => ?_) hv0
    rw [List.mem_singleton.1 hb]
    simp [upd]
  rw [e1] at r1
  have post : a'.defers = [] ∧ ∃ v', (results F a'.tmps).run T.P w' = .ok v' w' ∧ ∃ m', Ending.returned v' = .returned (mv m' (rn (fun _ => h.n) v)) ∧ Came m B h w (rn (fun _ => h.n) v) (h.push cs ty) m' w' :=
    ⟨k2.dfr, _, r1, upd m h.n (m1 k), rfl, ⟨upd_agree _ _ _, Ea, hb, Nat.le_succ _, oc_ren (bs := [k]) (fun b hb => by show h.n < h.n + 1; omega) hv0⟩⟩
  rcases hex with rfl | rfl <;> exact post
def reckonAt (T : Tab) (h0 : Hp) (n : Nat) (f : Nat) (vals : List Value) (s : List Dec) : Option (Value × Hp × List Dec × Lg) := callBy T (evC T n false) f vals h0 s ⟨[], [], []⟩
theorem fitsAt_calls {T : Tab} (hT : TabOk T) {h0 : Hp} {n f : Nat} {vals : List Value} {s : List Dec} {v : Value} {cs : Log} (hF : Fits (reckonAt T h0 n f vals s) v cs) (hcs : okLog cs) (hvals : (vals.all (lt h0.n)) = true) (hv : lt 0 v = true) {m : Mp} {w : World} (E : Emb m w.heap.size h0 w) :
    Calls T.P f (vals.map (mv m)).toArray w fun e w' => e = .returned v ∧ Tidy w w' := by
  obtain ⟨h1, h2, h3, h4⟩ := hF
  cases hr : reckonAt T h0 n f vals s with
  | none => rw [hr] at h1; cases h1
  | some r =>
    rw [hr] at h1 h2 h3 h4
    simp only [Option.map_some, Option.some.injEq] at h1 h2 h3 h4
    obtain ⟨v', h', s', L⟩ := r
    simp only at h1 h2 h3 h4
    subst h1
    obtain ⟨_, _, h5⟩ := callBy_ok hT (evC_ok hT n).1 _ _ _ _ _ _ _ _ _ hr ⟨by rw [h2]; exact hcs, all_eq _ h3, all_eq _ h4⟩
    refine (h5 _ _ w E (List.all_eq_true.1 hvals)).mono fun en w' he => ?_
    obtain ⟨m', rfl, C⟩ := he
    exact ⟨by rw [mv_still hv], C.below, fun k h1 h2 => C.emb.ice k h1 h2⟩
/-- the same, where the arguments hold no address -/
theorem fitsAt_still {T : Tab} (hT : TabOk T) {h0 : Hp} {n f : Nat} {vals : List Value} {s : List Dec} {v : Value} {cs : Log} (hF : Fits (reckonAt T h0 n f vals s) v cs) (hcs : okLog cs) (hvals : (vals.all (lt 0)) = true) (hv : lt 0 v = true) {m : Mp} {w : World} (E : Emb m w.heap.size h0 w) :
    Calls T.P f vals.toArray w fun e w' => e = .returned v ∧ Tidy w w' := by
  have hst : ∀ y ∈ vals, lt 0 y = true := List.all_eq_true.1 hvals
  have e : vals.map (mv m) = vals := (List.map_congr_left fun y hy => mv_still (hst y hy)).trans (List.map_id' _)
  have := fitsAt_calls hT hF hcs (List.all_eq_true.2 fun y hy => lt_mono (Nat.zero_le _) (hst y hy)) hv E
  rw [e] at this
  exact this
/-- the same table, where new blocks are put in order by themselves -/
def tabA (T : Tab) : Tab := { T with auto := true }
theorem tabA_ok {T : Tab} (h : TabOk T) : TabOk (tabA T) := ⟨h.mixed, h.ext, h.con, h.fn, h.hc⟩
/-- What is to be reckoned of a call: its answer, what lies in block k behind it, the tests logged; and that all else that was logged is so. -/
def FitsB (r : Option (Value × Hp × List Dec × Lg)) (k : Nat) (v : Value) (cs : List Value) (ty : TypeId) (lg : Log) : Prop :=
  r.map (fun r => (r.1, r.2.1.blk? k, r.2.2.2.cs, r.2.2.2.es.map Prod.fst, r.2.2.2.bs.map Prod.fst)) = some (r.elim (v, none, lg, [], []) fun r => (v, some (cs, ty), lg, r.2.2.2.es.map Prod.snd, r.2.2.2.bs.map Prod.snd))
end Go.KRun
