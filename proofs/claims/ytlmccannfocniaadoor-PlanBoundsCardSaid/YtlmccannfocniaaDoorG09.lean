/-
  RunG, RunS, RunT, RunU, RunV, RunW, RunY, RunO, Tab, Asn
-/
import Derived.Test.YtlmccannfocniaaDoorG08
import Derived.OneCell
import Derived.Laws.Externs
import Derived.Test.YtlmccannfocniaaDoorProg
import Derived.WalkKit
import Derived.LaidEql
import Derived.Stop.Asserts
import Derived.RowKitTokens
namespace Go.KRun
open Go.RowKit
/-- how code ends: at its end; by a return; by leaving a block -/
abbrev Ex := Option (Option Nat)
def out : Ex → Exit
  | none => .normal
  | some (some id) => .exit id
  | some none => .ret
/-! ### results -/
def resV (P : Program) (t : List Value) (h : Hp) : ResultVar → Option Value
  | .tmp i => some (t.getD i undef)
  | .cell i ty =>
    match t.getD i undef with
    | .pointer (some a) => loadS P ty a h
    | _ => none
def resL (P : Program) (t : List Value) (h : Hp) : List ResultVar → Option (List Value)
  | [] => some []
  | r :: rs =>
    match resV P t h r with
    | some v =>
      match resL P t h rs with
      | some vs => some (v :: vs)
      | none => none
    | none => none
def resS (P : Program) (F : Func) (t : List Value) (h : Hp) : Option Value :=
  match resL P t h F.results.toList with
  | some [v] => some v
  | some vs => if (vs.all noT) = true then some (.tuple vs.toArray) else none
  | none => none
theorem getD_mv {m : Mp} (t : List Value) (i : Nat) : (t.map (mv m)).toArray.getD i undef = mv m (t.getD i undef) := by
  simp only [List.getD]
  cases h : t[i]? with
  | none => simp [h, mv_undef]
  | some v => simp [h]
theorem resL_run {m : Mp} {B : Nat} {P : Program} {t : List Value} {h : Hp} {w : World} (E : Emb m B h w) (ht : ∀ v ∈ t, lt h.n v = true) : ∀ (rs : List ResultVar) (vs : List Value), resL P t h rs = some vs →
    (rs.mapM (m := Sem) fun
      | .tmp i => pure ((t.map (mv m)).toArray.getD i undef)
      | .cell i ty => do loadVar ty (← asAddr ((t.map (mv m)).toArray.getD i undef))).run P w = .ok (vs.map (mv m)) w ∧ ∀ v ∈ vs, lt h.n v = true
  | [], vs, hs => by
    simp only [resL] at hs
    cases hs
    exact ⟨by simp, by simp⟩
  | r :: rs, vs, hs => by
    simp only [resL] at hs
    split at hs
    · rename_i v hv
      split at hs
      · rename_i vs' hvs
        cases hs
        obtain ⟨h1, h2⟩ := resL_run E ht rs vs' hvs
        rw [List.mapM_cons]
        cases r with
        | tmp i =>
          simp only [resV] at hv
          cases hv
          refine ⟨?_, fun y hy => ?_⟩
          · simp only [getD_mv] at h1 ⊢
            simp only [Sem.run_bind, Sem.run_pure, Result.andThen_ok, h1, List.map_cons]
          · rcases List.mem_cons.1 hy with rfl | hy
            · simp only [List.getD]
              cases hh : t[i]? with
              | none => simp [undef, lt]
              | some u => exact ht u (List.mem_of_getElem? hh)
            · exact h2 y hy
        | cell i ty =>
          simp only [resV] at hv
          split at hv
          · rename_i a ha
            obtain ⟨g1, g2⟩ := loadS_run (P := P) E hv
            refine ⟨?_, fun y hy => ?_⟩
            · have e : mv m (Value.pointer (some a)) = .pointer (some (mvA m a)) := rfl
              have g3 : (loadVar ty (mvA m a)).run P w = .ok (mv m v) w := by
                simpa [Instr.loadAt, Instr.sureAddr] using g1
              simp only [getD_mv] at h1 ⊢
              have g4 : (asAddr (.pointer (some (mvA m a)))).run P w = .ok (mvA m a) w := rfl
              simp only [Sem.run_bind, Sem.run_pure, Result.andThen_ok, h1, ha, e, g4, g3, List.map_cons]
            · rcases List.mem_cons.1 hy with rfl | hy
              · exact g2
              · exact h2 y hy
          · cases hv
      · cases hs
    · cases hs
theorem tuple_mv {m : Mp} {vs : List Value} (h : (vs.all noT) = true) : mv m (.tuple vs.toArray) = .tuple (vs.map (mv m)).toArray := by
  simp only [mv, List.map_toArray]
  congr 2
  refine List.map_congr_left fun v hv => ?_
  have := List.all_eq_true.1 h v hv
  cases v <;> simp_all [noT, mv]
theorem resS_run {m : Mp} {B : Nat} {P : Program} {F : Func} {t : List Value} {h : Hp} {w : World} {v : Value} (E : Emb m B h w) (ht : ∀ v ∈ t, lt h.n v = true) (hs : resS P F t h = some v) :
    (results F (t.map (mv m)).toArray).run P w = .ok (mv m v) w ∧ lt h.n v = true := by
  unfold resS at hs
  have key : ∀ vs, resL P t h F.results.toList = some vs → (results F (t.map (mv m)).toArray).run P w = .ok (if hh : (vs.map (mv m)).toArray.size = 1 then (vs.map (mv m)).toArray[0] else .tuple (vs.map (mv m)).toArray) w ∧ ∀ v ∈ vs, lt h.n v = true := by
    intro vs hvs
    obtain ⟨h1, h2⟩ := resL_run E ht F.results.toList vs hvs
    refine ⟨?_, h2⟩
    unfold results
    have e : F.results = F.results.toList.toArray := by simp
    rw [e]
    rw [List.mapM_toArray]
    simp only [Sem.run_bind, Sem.run_map, Sem.run_pure]
    erw [h1]
    rfl
  split at hs
  · rename_i u hu
    cases hs
    obtain ⟨h1, h2⟩ := key _ hu
    exact ⟨by simpa using h1, h2 _ (by simp)⟩
  · rename_i vs hne hu
    split at hs
    · rename_i hall
      cases hs
      obtain ⟨h1, h2⟩ := key _ hu
      have hlen : ¬ (vs.map (mv m)).toArray.size = 1 := by
        intro hl
        simp only [List.size_toArray, List.length_map] at hl
        obtain ⟨u, hu'⟩ := List.length_eq_one_iff.1 hl
        exact hne u hu'
      rw [dif_neg hlen] at h1
      refine ⟨by rw [h1, tuple_mv hall], ?_⟩
      simp only [lt, List.all_eq_true]
      intro y hy
      have h3 := h2 y hy
      have h4 := List.all_eq_true.1 hall y hy
      cases y <;> simp_all [lt, noT]
    · cases hs
  · cases hs
/-! ### code and calls -/
def callBy (T : Tab) (evc : Code → Lf → Lg → Option (Ex × Lf × Lg)) : CallF := fun f vals h s L =>
  match T.fn f with
  | none => none
  | some F =>
    match F.body with
    | none => none
    | some c =>
      match evc c (vals ++ List.replicate (F.ntmps - vals.length) undef, h, s) L with
      | some (some (some _), _, _) => none
      | some (_, x, L') =>
        match resS T.P F x.1 x.2.1 with
        | some v => some (v, x.2.1, x.2.2, L')
        | none => none
      | none => none
def evC (T : Tab) : Nat → Bool → Code → Lf → Lg → Option (Ex × Lf × Lg)
  | 0, _, _, _, _ => none
  | n + 1, true, c, x, L =>
    match evC T n false c x L with
    | some (none, x', L') => evC T n true c x' L'
    | r => r
  | n + 1, false, c, x, L =>
    match c with
    | .skip => some (none, x, L)
    | .label _ => some (none, x, L)
    | .region _ ops draw =>
      match regS T (callBy T (evC T n false)) ops draw x L with
      | some r => some (none, r.1, r.2)
      | none => none
    | .seq c1 c2 =>
      match evC T n false c1 x L with
      | some (none, x', L') => evC T n false c2 x' L'
      | r => r
    | .cond b c1 c2 =>
      if okX b = true then
        match ev x.1 b with
        | .bool v =>
          match (pickB v x.2.2).1 with
          | true => evC T n false c1 (x.1, x.2.1, (pickB v x.2.2).2.1) (Lg.add (pickB v x.2.2).2.2 L)
          | false => evC T n false c2 (x.1, x.2.1, (pickB v x.2.2).2.1) (Lg.add (pickB v x.2.2).2.2 L)
        | _ => none
      else none
    | .block id c =>
      match evC T n false c x L with
      | some (some (some id'), x', L') => if id' = id then some (none, x', L') else some (some (some id'), x', L')
      | r => r
    | .loop c => evC T n true c x L
    | .exit id => some (some (some id), x, L)
    | .ret => some (some none, x, L)
    | .scope c => evC T n false c x L
    | _ => none
def EvOk (T : Tab) (ev : Code → Lf → Lg → Option (Ex × Lf × Lg)) : Prop := ∀ c x L e x' L', ev c x L = some (e, x', L') → L'.ok → L.ok ∧
  ∀ m B a w, Rel m B x a w → ∀ Q : Exit → Act → World → Prop, (∀ a' w', Reach m B x.2.1.n w x' a' w' → Q (out e) a' w') → c.wp T.P Q a w
def RdOk (T : Tab) (r : Nat) (ev : Code → Lf → Lg → Option (Ex × Lf × Lg)) : Prop := ∀ c x L e x' L', ev c x L = some (e, x', L') → L'.ok → L.ok ∧
  ∀ m B a w, Rel m B x a w → ∀ Q : Exit → Act → World → Prop, (∀ a' w', Reach m B x.2.1.n w x' a' w' → Q (out e) a' w') → Code.rounds T.P c Q r a w
theorem callBy_ok {T : Tab} (hT : TabOk T) {evc : Code → Lf → Lg → Option (Ex × Lf × Lg)} (hE : EvOk T evc) : CallOk T (callBy T evc) := by
  intro f vals h s L v h' s' L' hs hL
  unfold callBy at hs
  split at hs
  · cases hs
  · rename_i F hF
    split at hs
    · cases hs
    · rename_i c hc
      obtain ⟨hP, hN⟩ := hT.fn _ _ hF
      have main : ∀ e x, evc c (vals ++ List.replicate (F.ntmps - vals.length) undef, h, s) L = some (e, x, L') → (e = none ∨ e = some none) → resS T.P F x.1 x.2.1 = some v → x.2.1 = h' →
          L.ok ∧ (∃ F, T.P.funcs[f]? = some F ∧ (F.name == "runtime.NumGoroutine") = false ∧ F.body.isSome = true) ∧
          ∀ m B w, Emb m B h w → (∀ v ∈ vals, lt h.n v = true) → Calls T.P f (vals.map (mv m)).toArray w fun e w' => ∃ m', e = .returned (mv m' v) ∧ Came m B h w v h' m' w' := by
        intro e x he hex hres hh
        subst hh
        obtain ⟨h1, h2⟩ := hE _ _ _ _ _ _ he hL
        refine ⟨h1, ⟨F, hP, hN, by simp [hc]⟩, fun m B w E hv => calls_of_wp hP hc ?_⟩
        have R : Rel m B (vals ++ List.replicate (F.ntmps - vals.length) undef, h, s) { tmps := (vals.map (mv m)).toArray ++ Array.replicate (F.ntmps - (vals.map (mv m)).toArray.size) undef, defers := [] } w := by
          refine ⟨?_, rfl, E, ?_⟩
          · simp [mv_undef]
          · intro y hy
            rcases List.mem_append.1 hy with hy | hy
            · exact hv y hy
            · rw [List.eq_of_mem_replicate hy]; simp [undef, lt]
        refine h2 m B _ w R _ fun a' w' hR => ?_
        obtain ⟨m', k1, k2, k3, k4⟩ := hR
        obtain ⟨r1, r2⟩ := resS_run k2.emb k2.wf hres
        rw [← k2.tmps] at r1
        have post : a'.defers = [] ∧ ∃ v', (results F a'.tmps).run T.P w' = .ok v' w' ∧ ∃ m', Ending.returned v' = .returned (mv m' v) ∧ Came m B h w v x.2.1 m' w' :=
          ⟨k2.dfr, _, r1, m', rfl, ⟨k1, k2.emb, k3, k4, r2⟩⟩
        rcases hex with rfl | rfl <;> exact post
      split at hs
      · cases hs
      · rename_i e x L1 hne he
        split at hs
        · rename_i u hu
          cases hs
          refine main e x he ?_ hu rfl
          match e, hne with
          | none, _ => exact .inl rfl
          | some none, _ => exact .inr rfl
          | some (some id), hne => exact absurd rfl (hne id)
        · cases hs
      · cases hs
theorem evC_ok {T : Tab} (hT : TabOk T) : ∀ n, EvOk T (evC T n false) ∧ RdOk T n (evC T n true) := by
  intro n
  induction n with
  | zero => exact ⟨fun c x L e x' L' h => by simp [evC] at h, fun c x L e x' L' h => by simp [evC] at h⟩
  | succ n ih =>
    obtain ⟨ihE, ihR⟩ := ih
    refine ⟨?_, ?_⟩
    · intro c x L e x' L' h hL
      cases c with
      | skip =>
        simp only [evC] at h
        cases h
        exact ⟨hL, fun m B a w R Q hQ => wp_skip (hQ _ _ ⟨m, Agree.refl _ _, R, Below.refl _ _, Nat.le_refl _⟩)⟩
      | label l =>
        simp only [evC] at h
        cases h
        exact ⟨hL, fun m B a w R Q hQ => wp_label (hQ _ _ ⟨m, Agree.refl _ _, R, Below.refl _ _, Nat.le_refl _⟩)⟩
      | region id ops draw =>
        simp only [evC] at h
        split at h
        · rename_i r hr
          cases h
          exact regS_ok (x' := r.1) (L' := r.2) hT (callBy_ok hT ihE) hr hL
        · cases h
      | seq c1 c2 =>
        simp only [evC] at h
        split at h
        · rename_i x1 L1 h1
          obtain ⟨g1, g2⟩ := ihE _ _ _ _ _ _ h hL
          obtain ⟨g3, g4⟩ := ihE _ _ _ _ _ _ h1 g1
          refine ⟨g3, fun m B a w R Q hQ => wp_seq (g4 m B a w R _ fun a' w' hR => ?_)⟩
          obtain ⟨m', k1, k2, k3, k4⟩ := hR
          exact g2 m' B a' w' k2 Q fun a'' w'' hR' => hQ _ _ (Reach.trans k1 k3 k4 hR')
        · rename_i hne
          obtain ⟨g3, g4⟩ := ihE _ _ _ _ _ _ h hL
          refine ⟨g3, fun m B a w R Q hQ => wp_seq (g4 m B a w R _ fun a' w' hR => ?_)⟩
          have := hQ a' w' hR
          match e, h, this with
          | none, h, _ => exact absurd h (hne x' L')
          | some (some id), _, this => exact this
          | some none, _, this => exact this
      | cond b c1 c2 =>
        simp only [evC] at h
        split at h
        · rename_i hb
          split at h
          · rename_i v hv
            split at h
            · rename_i hp
              obtain ⟨g1, g2⟩ := ihE _ _ _ _ _ _ h hL
              obtain ⟨l1, l2⟩ := Lg.add_ok g1
              have e1 := pickB_ok l1
              rw [hp] at e1
              refine ⟨l2, fun m B a w R Q hQ => ?_⟩
              have hev : a.eval b = .bool true := by rw [eval_mv R.tmps hb, hv, ← e1]; rfl
              exact wp_cond_true hev (g2 m B a w ⟨R.tmps, R.dfr, R.emb, R.wf⟩ Q hQ)
            · rename_i hp
              obtain ⟨g1, g2⟩ := ihE _ _ _ _ _ _ h hL
              obtain ⟨l1, l2⟩ := Lg.add_ok g1
              have e1 := pickB_ok l1
              rw [hp] at e1
              refine ⟨l2, fun m B a w R Q hQ => ?_⟩
              have hev : a.eval b = .bool false := by rw [eval_mv R.tmps hb, hv, ← e1]; rfl
              exact wp_cond_false hev (g2 m B a w ⟨R.tmps, R.dfr, R.emb, R.wf⟩ Q hQ)
          · cases h
        · cases h
      | block id c =>
        simp only [evC] at h
        split at h
        · rename_i id' x1 L1 h1
          split at h
          · rename_i hid
            cases h
            obtain ⟨g3, g4⟩ := ihE _ _ _ _ _ _ h1 hL
            refine ⟨g3, fun m B a w R Q hQ => wp_block (g4 m B a w R _ fun a' w' hR => ?_)⟩
            simp only [out, Exit.inBlock, hid, if_true]
            exact hQ a' w' hR
          · rename_i hid
            cases h
            obtain ⟨g3, g4⟩ := ihE _ _ _ _ _ _ h1 hL
            refine ⟨g3, fun m B a w R Q hQ => wp_block (g4 m B a w R _ fun a' w' hR => ?_)⟩
            simp only [out, Exit.inBlock, hid, if_false]
            exact hQ a' w' hR
        · rename_i hne
          obtain ⟨g3, g4⟩ := ihE _ _ _ _ _ _ h hL
          refine ⟨g3, fun m B a w R Q hQ => wp_block (g4 m B a w R _ fun a' w' hR => ?_)⟩
          have := hQ a' w' hR
          match e, h, this with
          | none, _, this => exact this
          | some (some id'), h, _ => exact absurd h (hne id' x' L')
          | some none, _, this => exact this
      | loop c =>
        simp only [evC] at h
        obtain ⟨g1, g2⟩ := ihR _ _ _ _ _ _ h hL
        refine ⟨g1, fun m B a w R Q hQ => ?_⟩
        exact wp_loop_rounds n (g2 m B a w R Q hQ)
      | exit id =>
        simp only [evC] at h
        cases h
        exact ⟨hL, fun m B a w R Q hQ => wp_exit (hQ _ _ ⟨m, Agree.refl _ _, R, Below.refl _ _, Nat.le_refl _⟩)⟩
      | ret =>
        simp only [evC] at h
        cases h
        exact ⟨hL, fun m B a w R Q hQ => wp_ret (hQ _ _ ⟨m, Agree.refl _ _, R, Below.refl _ _, Nat.le_refl _⟩)⟩
      | scope c =>
        simp only [evC] at h
        obtain ⟨g3, g4⟩ := ihE _ _ _ _ _ _ h hL
        refine ⟨g3, fun m B a w R Q hQ => wp_scope_straight (g4 m B a w R _ fun a' w' hR => ?_)⟩
        have := hQ a' w' hR
        match e, this with
        | none, this => exact this
        | some (some id), this => exact this
        | some none, this => exact this
      | rangeFunc f ps ar b => simp [evC] at h
      | goto l => simp [evC] at h
      | refuse why => simp [evC] at h
    · intro c x L e x' L' h hL
      simp only [evC] at h
      split at h
      · rename_i x1 L1 h1
        obtain ⟨g1, g2⟩ := ihR _ _ _ _ _ _ h hL
        obtain ⟨g3, g4⟩ := ihE _ _ _ _ _ _ h1 g1
        refine ⟨g3, fun m B a w R Q hQ => ?_⟩
        rw [rounds_succ]
        refine g4 m B a w R _ fun a' w' hR => ?_
        obtain ⟨m', k1, k2, k3, k4⟩ := hR
        exact g2 m' B a' w' k2 Q fun a'' w'' hR' => hQ _ _ (Reach.trans k1 k3 k4 hR')
      · rename_i hne
        obtain ⟨g3, g4⟩ := ihE _ _ _ _ _ _ h hL
        refine ⟨g3, fun m B a w R Q hQ => ?_⟩
        rw [rounds_succ]
        refine g4 m B a w R _ fun a' w' hR => ?_
        have := hQ a' w' hR
        match e, h, this with
        | none, h, _ => exact absurd h (hne x' L')
        | some (some id), _, this => exact this
        | some none, _, this => exact this
/-! ### THE THEOREM -/
/-- The reckoner's answer of a call whose arguments hold no address: fuel 'n', decisions 's' ('[]': it reckons every test). -/
def reckon (T : Tab) (n : Nat) (f : Nat) (vals : List Value) (s : List Dec) : Option (Value × Hp × List Dec × Lg) := callBy T (evC T n false) f vals ⟨0, []⟩ s ⟨[], [], []⟩
theorem reckon_calls {T : Tab} (hT : TabOk T) {n f : Nat} {vals : List Value} {s s' : List Dec} {v : Value} {h' : Hp} {L : Lg} (hs : reckon T n f vals s = some (v, h', s', L)) (hL : L.ok) (hvals : (vals.all (lt 0)) = true) (hv : lt 0 v = true) (w : World) :
    Calls T.P f vals.toArray w fun e w' => e = .returned v ∧ Tidy w w' := by
  obtain ⟨_, _, h3⟩ := callBy_ok hT (evC_ok hT n).1 _ _ _ _ _ _ _ _ _ hs hL
  have E : Emb (fun b => (b, 0)) w.heap.size ⟨0, []⟩ w :=
    Emb.none w
  have hst : ∀ y ∈ vals, lt 0 y = true := List.all_eq_true.1 hvals
  have e : vals.map (mv fun b => (b, 0)) = vals := (List.map_congr_left fun y hy => mv_still (hst y hy)).trans (List.map_id' _)
  have := h3 _ _ w E hst
  rw [e] at this
  refine this.mono fun en w' he => ?_
  obtain ⟨m', rfl, C⟩ := he
  exact ⟨by rw [mv_still hv], C.below, fun k h1 h2 => C.emb.ice k h1 h2⟩
/-- What is to be reckoned of a call: that an answer comes, that it is 'v', that the tests logged are 'cs', and that all else that was logged is so. -/
def Fits (r : Option (Value × Hp × List Dec × Lg)) (v : Value) (cs : Log) : Prop :=
  r.map (fun r => r.1) = some v ∧ r.map (fun r => r.2.2.2.cs) = some cs ∧ r.map (fun r => r.2.2.2.es.map Prod.fst) = r.map (fun r => r.2.2.2.es.map Prod.snd) ∧ r.map (fun r => r.2.2.2.bs.map Prod.fst) = r.map (fun r => r.2.2.2.bs.map Prod.snd)
theorem all_eq {α : Type} : ∀ (l : List (α × α)), l.map Prod.fst = l.map Prod.snd → ∀ x ∈ l, x.1 = x.2
  | [], _, x, hx => by cases hx
  | y :: l, h, x, hx => by
    simp only [List.map_cons, List.cons.injEq] at h
    rcases List.mem_cons.1 hx with rfl | hx
    · exact h.1
    · exact all_eq l h.2 x hx
theorem fits_calls {T : Tab} (hT : TabOk T) {n f : Nat} {vals : List Value} {s : List Dec} {v : Value} {cs : Log} (hF : Fits (reckon T n f vals s) v cs) (hcs : okLog cs) (hvals : (vals.all (lt 0)) = true) (hv : lt 0 v = true) (w : World) :
    Calls T.P f vals.toArray w fun e w' => e = .returned v ∧ Tidy w w' := by
  obtain ⟨h1, h2, h3, h4⟩ := hF
  cases hr : reckon T n f vals s with
  | none => rw [hr] at h1; cases h1
  | some r =>
    rw [hr] at h1 h2 h3 h4
    simp only [Option.map_some, Option.some.injEq] at h1 h2 h3 h4
    obtain ⟨v', h', s', L⟩ := r
    simp only at h1 h2 h3 h4
    subst h1
    exact reckon_calls hT hr ⟨by rw [h2]; exact hcs, all_eq _ h3, all_eq _ h4⟩ hvals hv w
/-- From state x the code c ends, in one of the ways that 'Post' tells. -/
def Runs (T : Tab) (c : Code) (x : Lf) (Post : Ex → Lf → Prop) : Prop :=
  ∀ m B a w, Rel m B x a w → ∀ Q : Exit → Act → World → Prop, (∀ e y, Post e y → ∀ a' w', Reach m B x.2.1.n w y a' w' → Q (out e) a' w') → c.wp T.P Q a w
theorem Runs.mono {T : Tab} {c : Code} {x : Lf} {P P' : Ex → Lf → Prop} (h : Runs T c x P) (hp : ∀ e y, P e y → P' e y) : Runs T c x P' :=
  fun m B a w R Q hQ => h m B a w R Q fun e y he => hQ e y (hp e y he)
/-- the decisions that are told ahead are no part of the state -/
theorem Runs.script {T : Tab} {c : Code} {t : List Value} {h : Hp} {s s' : List Dec} {P : Ex → Lf → Prop} (hr : Runs T c (t, h, s) P) : Runs T c (t, h, s') P :=
  fun m B a w R Q hQ => hr m B a w ⟨R.tmps, R.dfr, R.emb, R.wf⟩ Q hQ
theorem Runs.ev {T : Tab} (hT : TabOk T) {n : Nat} {c : Code} {x x' : Lf} {e : Ex} {L : Lg} (h : evC T n false c x ⟨[], [], []⟩ = some (e, x', L)) (hL : L.ok) : Runs T c x fun e' y => e' = e ∧ y = x' :=
  fun m B a w R Q hQ => ((evC_ok hT n).1 c x _ e x' L h hL).2 m B a w R Q fun a' w' hR => hQ e x' ⟨rfl, rfl⟩ a' w' hR
/-! ### the pieces of a piece of code -/
def cFst : Code → Code
  | .seq a _ => a
  | c => c
def cSnd : Code → Code
  | .seq _ b => b
  | c => c
def cIn : Code → Code
  | .block _ c => c
  | .loop c => c
  | .scope c => c
  | c => c
def cBody (F : Func) : Code := F.body.getD .skip
/-- temporaries of which nothing is known but how many they are -/
def tl (n : Nat) (g : Nat → Value) : List Value := (List.range n).map g
theorem tl_of {J : List Value} {n : Nat} (h : J.length = n) : ∃ g, J = tl n g := by
  refine ⟨fun i => J.getD i undef, ?_⟩
  unfold tl
  refine List.ext_getElem (by simp [h]) fun i h1 h2 => ?_
  simp [h1]
/-- What is to be reckoned of a piece of code: how it ends, the first k temporaries and how many more there are, the memory, what was decided. -/
def GoesT (r : Option (Ex × Lf × Lg)) (k n : Nat) (e : Ex) (front : List Value) (h : Hp) (cs : Log) : Prop :=
  r.map (fun r => (r.1, r.2.1.1.take k, (r.2.1.1.drop k).length, r.2.1.2.1, r.2.2.cs)) = some (e, front, n, h, cs) ∧
    r.map (fun r => r.2.2.es.map Prod.fst) = r.map (fun r => r.2.2.es.map Prod.snd) ∧ r.map (fun r => r.2.2.bs.map Prod.fst) = r.map (fun r => r.2.2.bs.map Prod.snd)
theorem goesT_some {r : Option (Ex × Lf × Lg)} {k n : Nat} {e : Ex} {front : List Value} {h : Hp} {cs : Log} (hG : GoesT r k n e front h cs) (hcs : okLog cs) : ∃ g s L, r = some (e, (front ++ tl n g, h, s), L) ∧ L.ok := by
  obtain ⟨h1, h5, h6⟩ := hG
  cases r with
  | none => cases h1
  | some r =>
    simp only [Option.map_some, Option.some.injEq, Prod.mk.injEq] at h1 h5 h6
    obtain ⟨e', ⟨t', h', s'⟩, L⟩ := r
    simp only at h1 h5 h6
    obtain ⟨h1, h2, h3, h4, h7⟩ := h1
    subst h1 h4
    obtain ⟨g, hg⟩ := tl_of h3
    refine ⟨g, s', L, ?_, by rw [h7]; exact hcs, all_eq _ h5, all_eq _ h6⟩
    rw [← h2, ← hg, List.take_append_drop]
theorem goesT_runs {T : Tab} (hT : TabOk T) {N : Nat} {c : Code} {t : List Value} {h h' : Hp} {s s0 : List Dec} {k n : Nat} {e : Ex} {front : List Value} {cs : Log} (hG : GoesT (evC T N false c (t, h, s) ⟨[], [], []⟩) k n e front h' cs) (hcs : okLog cs) :
    Runs T c (t, h, s0) fun e' y => e' = e ∧ (∃ g, y.1 = front ++ tl n g) ∧ y.2.1 = h' := by
  obtain ⟨g, s', L, hr, hL⟩ := goesT_some hG hcs
  refine Runs.script ((Runs.ev hT hr hL).mono fun e2 y he => ?_)
  obtain ⟨rfl, rfl⟩ := he
  exact ⟨rfl, ⟨g, rfl⟩, rfl⟩
def RunsW (T : Tab) (c : Code) (x : Lf) (Post : Ex → Lf → Prop) : Prop :=
  ∀ m B a w, Rel m B x a w → ∀ Q : Exit → Act → World → Prop, (∀ e y, Post e y → ∀ m' a' w', Rel m' B y a' w' → Below B w w' → Q (out e) a' w') → c.wp T.P Q a w
theorem Runs.w {T : Tab} {c : Code} {x : Lf} {P : Ex → Lf → Prop} (h : Runs T c x P) : RunsW T c x P := fun m B a w R Q hQ => h m B a w R Q fun e y he a' w' hR => by
  obtain ⟨m', _, k2, k3, _⟩ := hR
  exact hQ e y he m' a' w' k2 k3
/-- the state behind it told otherwise -/
theorem RunsW.post {T : Tab} {c : Code} {x : Lf} {P P' : Ex → Lf → Prop} (h : RunsW T c x P) (hp : ∀ e y, P e y → ∃ y', P' e y' ∧ ∀ m B a w, Rel m B y a w → ∃ m', Rel m' B y' a w) : RunsW T c x P' :=
  fun m B a w R Q hQ => h m B a w R Q fun e y he m' a' w' hR hb => by
    obtain ⟨y', h1, h2⟩ := hp e y he
    obtain ⟨m2, h3⟩ := h2 m' B a' w' hR
    exact hQ e y' h1 m2 a' w' h3 hb
theorem RunsW.mono {T : Tab} {c : Code} {x : Lf} {P P' : Ex → Lf → Prop} (h : RunsW T c x P) (hp : ∀ e y, P e y → P' e y) : RunsW T c x P' := h.post fun e y he => ⟨y, hp e y he, fun m _ _ _ R => ⟨m, R⟩⟩
theorem RunsW.seq {T : Tab} {c1 c2 : Code} {x : Lf} {P1 P : Ex → Lf → Prop} (h1 : RunsW T c1 x P1) (h2 : ∀ y, P1 none y → RunsW T c2 y P) (h3 : ∀ e y, P1 (some e) y → P (some e) y) : RunsW T (.seq c1 c2) x P := by
  intro m B a w R Q hQ
  refine wp_seq (h1 m B a w R _ fun e y he m' a' w' hR hb => ?_)
  match e, he with
  | none, he => exact h2 y he m' B a' w' hR Q fun e' y' he' m'' a'' w'' hR' hb' => hQ e' y' he' m'' a'' w'' hR' (hb.trans hb')
  | some none, he => exact hQ _ _ (h3 none y he) m' a' w' hR hb
  | some (some id), he => exact hQ _ _ (h3 (some id) y he) m' a' w' hR hb
theorem RunsW.block {T : Tab} {c : Code} {id : Nat} {x : Lf} {P1 P : Ex → Lf → Prop} (h1 : RunsW T c x P1) (h2 : ∀ y, P1 none y → P none y) (h3 : ∀ y, P1 (some none) y → P (some none) y)
    (h4 : ∀ y, P1 (some (some id)) y → P none y) (h5 : ∀ id' y, id' ≠ id → P1 (some (some id')) y → P (some (some id')) y) : RunsW T (.block id c) x P := by
  intro m B a w R Q hQ
  refine wp_block (h1 m B a w R _ fun e y he m' a' w' hR hb => ?_)
  match e, he with
  | none, he => exact hQ _ _ (h2 y he) m' a' w' hR hb
  | some none, he => exact hQ _ _ (h3 y he) m' a' w' hR hb
  | some (some id'), he =>
    simp only [out, Exit.inBlock]
    by_cases hid : id' = id
    · subst hid
      rw [if_pos rfl]
      exact hQ _ _ (h4 y he) m' a' w' hR hb
    · rw [if_neg hid]
      exact hQ _ _ (h5 id' y hid he) m' a' w' hR hb
theorem RunsW.loop {T : Tab} {c : Code} {P : Ex → Lf → Prop} (Inv : Nat → Lf → Prop) (round : ∀ n x, Inv n x → RunsW T c x fun e y => match e with | none => ∃ n', n' < n ∧ Inv n' y | some e => P (some e) y) {n : Nat} {x : Lf} (h0 : Inv n x) :
    RunsW T (.loop c) x P := by
  have key : ∀ N n x, n < N → Inv n x → ∀ m B a w, Rel m B x a w → ∀ Q : Exit → Act → World → Prop, (∀ e y, P e y → ∀ m' a' w', Rel m' B y a' w' → Below B w w' → Q (out e) a' w') → Code.rounds T.P c Q N a w := by
    intro N
    induction N with
    | zero => intro n x hn; omega
    | succ N ih =>
      intro n x hn hI m B a w R Q hQ
      rw [rounds_succ]
      refine round n x hI m B a w R _ fun e y he m' a' w' hR hb => ?_
      match e, he with
      | none, he =>
        obtain ⟨n', hn', hI'⟩ := he
        exact ih n' y (by omega) hI' m' B a' w' hR Q fun e' y' he' m'' a'' w'' hR' hb' => hQ e' y' he' m'' a'' w'' hR' (hb.trans hb')
      | some none, he => exact hQ _ _ he m' a' w' hR hb
      | some (some id), he => exact hQ _ _ he m' a' w' hR hb
  intro m B a w R Q hQ
  exact wp_loop_rounds (n + 1) (key (n + 1) n x (by omega) h0 m B a w R Q hQ)
theorem RunsW.script {T : Tab} {c : Code} {t : List Value} {h : Hp} {s s' : List Dec} {P : Ex → Lf → Prop} (hr : RunsW T c (t, h, s) P) : RunsW T c (t, h, s') P :=
  fun m B a w R Q hQ => hr m B a w ⟨R.tmps, R.dfr, R.emb, R.wf⟩ Q hQ
theorem tidy_trans {a b c : World} (h1 : Tidy a b) (h2 : Tidy b c) : Tidy a c := by
  refine ⟨h1.1.trans (h2.1.mono h1.1.size), fun k hk hk' => ?_⟩
  by_cases h : k < b.heap.size
  · rw [h2.1.block k h]; exact h1.2 k hk h
  · exact h2.2 k (by omega) hk'
theorem tidy_alloc (w : World) (cs : Array Value) (e : TypeId) : Tidy w (w.alloc (.cells cs e (0, 0))) := by
  refine ⟨Below.alloc (Below.refl _ _) (Nat.le_refl _) _, fun k hk hk' => ?_⟩
  rw [size_alloc'] at hk'
  have : k = w.heap.size := by omega
  subst this
  exact iced_cells (heap_alloc_at w _)
theorem tidy_setCell {a w : World} (h : Tidy a w) {b : Nat} {v : Value} {t : TypeId} (hb : a.heap.size ≤ b) (hc : w.heap[b]? = some (.cells #[v] t (0, 0))) (u : Value) : Tidy a (w.setCell ⟨b, 0, none⟩ u) := by
  refine ⟨Below.setCell h.1 hb u, fun k hk hk' => ?_⟩
  by_cases hkb : k = b
  · subst hkb
    exact iced_cells (one_setCell hc)
  · rw [Below.heap_setCell w ⟨b, 0, none⟩ u k hkb]
    refine h.2 k hk ?_
    have hs : (w.setCell ⟨b, 0, none⟩ u).heap.size = w.heap.size := by simp [World.setCell]
    omega
/-! ### values that point into some blocks alone -/
def oc1 (bs : List Nat) : Value → Bool
  | .pointer (some a) => bs.contains a.block
  | .slice (some a) _ _ => bs.contains a.block
  | .map (some b) => bs.contains b
  | .iface t _ => !(Nat.beq t dead)
  | _ => true
def oc2 (bs : List Nat) : Value → Bool
  | .agg cs => cs.toList.all (oc1 bs)
  | v => oc1 bs v
def oc (bs : List Nat) : Value → Bool
  | .tuple vs => vs.toList.all (oc2 bs)
  | v => oc2 bs v
theorem mv1_on {m m' : Mp} {bs : List Nat} (h : ∀ b ∈ bs, m b = m' b) {v : Value} (hv : oc1 bs v = true) : mv1 m v = mv1 m' v := by
  unfold mv1
  split
  · simp only [oc1, List.contains_iff_mem] at hv; simp [mvA, h _ hv]
  · simp only [oc1, List.contains_iff_mem] at hv; simp [mvA, h _ hv]
  · simp only [oc1, List.contains_iff_mem] at hv; simp [h _ hv]
  · rfl
  · rfl
theorem mv2_on {m m' : Mp} {bs : List Nat} (h : ∀ b ∈ bs, m b = m' b) {v : Value} (hv : oc2 bs v = true) : mv2 m v = mv2 m' v := by
  unfold mv2
  split
  · rename_i cs
    simp only [oc2, List.all_eq_true] at hv
    congr 1
    exact Array.map_congr_left fun x hx => mv1_on h (hv x (by simpa using hx))
  · rename_i hna
    refine mv1_on h ?_
    unfold oc2 at hv
    split at hv
    · rename_i cs; exact absurd rfl (hna cs)
    · exact hv
theorem mv_on {m m' : Mp} {bs : List Nat} (h : ∀ b ∈ bs, m b = m' b) {v : Value} (hv : oc bs v = true) : mv m v = mv m' v := by
  unfold mv
  split
  · rename_i vs
    simp only [oc, List.all_eq_true] at hv
    congr 1
    exact Array.map_congr_left fun x hx => mv2_on h (hv x (by simpa using hx))
  · rename_i hna
    refine mv2_on h ?_
    unfold oc at hv
    split at hv
    · rename_i cs; exact absurd rfl (hna cs)
    · exact hv
theorem oc_ren {bs : List Nat} {f : Nat → Nat} {n : Nat} (hf : ∀ b ∈ bs, f b < n) {v : Value} (hv : oc bs v = true) : lt n (rn f v) = true := by
  have h1 : ∀ v, oc1 bs v = true → lt1 n (rn1 f v) = true := fun v h => by
    cases v with
    | pointer a =>
      cases a with
      | none => rfl
      | some a => simp only [oc1, List.contains_iff_mem] at h; exact blt_iff.2 (hf _ h)
    | map a =>
      cases a with
      | none => rfl
      | some a => simp only [oc1, List.contains_iff_mem] at h; exact blt_iff.2 (hf _ h)
    | slice a l c =>
      cases a with
      | none => rfl
      | some a => simp only [oc1, List.contains_iff_mem] at h; exact blt_iff.2 (hf _ h)
    | iface t u => simp only [oc1, Bool.not_eq_true'] at h; simp [rn1, lt1, h]
    | _ => rfl
  have h2 : ∀ v, oc2 bs v = true → lt2 n (rn2 f v) = true := fun v h => by
    cases v with
    | agg cs =>
      simp only [oc2, lt2, rn2, Array.toList_map, List.all_eq_true, List.mem_map] at *
      rintro _ ⟨y, hy, rfl⟩
      exact h1 y (h y hy)
    | pointer a =>
      cases a with
      | none => rfl
      | some a => exact h1 (.pointer (some a)) h
    | map a =>
      cases a with
      | none => rfl
      | some a => exact h1 (.map (some a)) h
    | slice a l c =>
      cases a with
      | none => rfl
      | some a => exact h1 (.slice (some a) l c) h
    | iface t u => exact h1 (.iface t u) h
    | _ => rfl
  cases v with
  | tuple cs =>
    simp only [oc, lt, rn, Array.toList_map, List.all_eq_true, List.mem_map] at *
    rintro _ ⟨y, hy, rfl⟩
    exact h2 y (hv y hy)
  | agg cs => exact h2 (.agg cs) hv
  | pointer a =>
    cases a with
    | none => rfl
    | some a => exact h1 (.pointer (some a)) hv
  | map a =>
    cases a with
    | none => rfl
    | some a => exact h1 (.map (some a)) hv
  | slice a l c =>
    cases a with
    | none => rfl
    | some a => exact h1 (.slice (some a) l c) hv
  | iface t u => exact h1 (.iface t u) hv
  | _ => rfl
/-! ### the smallest memory -/
/-- these rows are there: block i's cells are the first of block s i's -/
def Hp.fits (h0 : Hp) (s : Nat → Nat) (h : Hp) : Prop := ∀ i x, h0.blk? i = some x → tomb x.2 = false → ∃ y r, h.blk? (s i) = some y ∧ tomb y.2 = false ∧ rt y.2 = rt x.2 ∧ y.1 = x.1 ++ r
/-- a 'for', its memory made small behind each round -/
theorem RunsW.forLoop {T : Tab} {c : Code} {id : Nat} {x : Lf} {P : Lf → Prop} {R : Lf → Prop} (Inv : Nat → Lf → Prop)
    (round : ∀ n x, Inv n x → RunsW T c x fun e y => match e with | none => ∃ n', n' < n ∧ Inv n' y | some none => R y | some (some id') => id' = id ∧ P y) {n : Nat} (h0 : Inv n x) :
    RunsW T (.block id (.loop c)) x fun e y => match e with | none => P y | some none => R y | some (some _) => False := by
  refine RunsW.block (P1 := fun e y => match e with | none => False | some none => R y | some (some id') => id' = id ∧ P y) ?_ (fun y he => he.elim) (fun y he => he) (fun y he => he.2) (fun id' y hid he => absurd he.1 hid)
  refine RunsW.loop Inv (fun n x hI => (round n x hI).mono fun e y he => ?_) h0
  match e, he with
  | none, he => exact he
  | some none, he => exact he
  | some (some id'), he => exact he
theorem goesT_runsW {T : Tab} (hT : TabOk T) {N : Nat} {c : Code} {t : List Value} {h h' : Hp} {s s0 : List Dec} {k n : Nat} {e : Ex} {front : List Value} {cs : Log} (hG : GoesT (evC T N false c (t, h, s) ⟨[], [], []⟩) k n e front h' cs) (hcs : okLog cs) :
    RunsW T c (t, h, s0) fun e' y => e' = e ∧ (∃ g, y.1 = front ++ tl n g) ∧ y.2.1 = h' := (goesT_runs hT hG hcs).w
theorem tl_len (n : Nat) (g : Nat → Value) : (tl n g).length = n := by simp [tl]
theorem blkTwo {x y : List Value × TypeId} {i : Nat} {z : List Value × TypeId} (h : (⟨2, [y, x]⟩ : Hp).blk? i = some z) : (i = 0 ∧ z = x) ∨ (i = 1 ∧ z = y) := by
  have : i < 2 := Hp.blk_lt h
  have : i = 0 ∨ i = 1 := by omega
  rcases this with rfl | rfl
  · exact .inl ⟨rfl, (Option.some.inj h).symm⟩
  · exact .inr ⟨rfl, (Option.some.inj h).symm⟩
/-- temporaries, some of which nothing is known -/
def fillO : (Nat → Value) → List (Option Value) → List Value
  | _, [] => []
  | j, o :: r => o.getD (j 0) :: fillO (fun i => j (i + 1)) r
def matO (f : Nat → Nat) : List (Option Value) → List Value → Prop
  | [], [] => True
  | some u :: r, v :: s => rn f u = v ∧ matO f r s
  | none :: r, _ :: s => matO f r s
  | _, _ => False
theorem fill_mat {m : Mp} {f : Nat → Nat} {k : Nat} (hk : 0 < k) : ∀ (o : List (Option Value)) (t : List Value), matO f o t → (∀ v, some v ∈ o → lt k v = true) → ∃ j, (fillO j o).map (mv fun i => m (f i)) = t.map (mv m) ∧ ∀ v ∈ fillO j o, lt k v = true
  | [], [], _, _ => ⟨fun _ => undef, rfl, fun v hv => by cases hv⟩
  | [], _ :: _, h, _ => h.elim
  | some _ :: _, [], h, _ => h.elim
  | none :: _, [], h, _ => h.elim
  | some u :: r, v :: s, h, hl => by
    obtain ⟨h1, h2⟩ := h
    obtain ⟨j, e1, e2⟩ := fill_mat (m := m) hk r s h2 fun x hx => hl x (List.mem_cons_of_mem _ hx)
    refine ⟨fun i => match i with | 0 => undef | i + 1 => j i, ?_, ?_⟩
    · show mv (fun i => m (f i)) u :: (fillO j r).map (mv fun i => m (f i)) = mv m v :: s.map (mv m)
      rw [e1, ← h1, mv_rn]
    · intro x hx
      rcases List.mem_cons.1 (show x ∈ u :: fillO j r from hx) with rfl | hx
      · exact hl x List.mem_cons_self
      · exact e2 x hx
  | none :: r, v :: s, h, hl => by
    obtain ⟨j, e1, e2⟩ := fill_mat (m := m) hk r s h fun x hx => hl x (List.mem_cons_of_mem _ hx)
    refine ⟨fun i => match i with | 0 => .iface dead (mv m v) | i + 1 => j i, ?_, ?_⟩
    · show mv (fun i => m (f i)) (.iface dead (mv m v)) :: (fillO j r).map (mv fun i => m (f i)) = mv m v :: s.map (mv m)
      rw [e1]
      simp [mv, mv2, mv1]
    · intro x hx
      rcases List.mem_cons.1 (show x ∈ Value.iface dead (mv m v) :: fillO j r from hx) with rfl | hx
      · simp [lt, lt2, lt1, hk, dead]
      · exact e2 x hx
/-- a memory made small: blocks with addresses in them, too -/
theorem compactR {m : Mp} {B : Nat} {t t' : List Value} {h h' : Hp} {s : List Dec} {a : Act} {w : World} (R : Rel m B (t, h, s) a w) (f : Nat → Nat) (hl : h'.l.length = h'.n)
    (hb : ∀ i x, h'.blk? i = some x → (x.1.all (lt1 h'.n)) = true ∧ h.blk? (f i) = some (x.1.map (rn1 f), x.2))
    (hi : ∀ i j x y, h'.blk? i = some x → h'.blk? j = some y → f i = f j → i = j)
    (ht : t'.map (mv fun i => m (f i)) = t.map (mv m)) (hw : ∀ v ∈ t', lt h'.n v = true) : Rel (fun i => m (f i)) B (t', h', s) a w := by
  have E := R.emb
  have em : ∀ l : List Value, (l.map (rn1 f)).map (mv1 m) = l.map (mv1 fun i => m (f i)) := fun l => by
    rw [List.map_map]
    exact List.map_congr_left fun v _ => mv1_rn m f v
  refine ⟨by rw [R.tmps]; simp only; rw [ht], R.dfr, ⟨hl, ?_, ?_, ?_, ?_, ?_, E.base, E.ice, ?_⟩, hw⟩
  · intro b x hx ht
    have := E.lies (f b) _ (hb b x hx).2 ht
    rw [em] at this
    exact this
  · intro b x hx hr
    exact E.low (f b) _ (hb b x hx).2 hr
  · intro b x hx ht hr
    exact E.ros (f b) _ (hb b x hx).2 ht hr
  · intro b b' x x' hx hx' hr hr' he
    exact hi b b' x x' hx hx' (E.inj _ _ _ _ (hb b x hx).2 (hb b' x' hx').2 hr hr' he)
  · intro b x hx v hv
    exact List.all_eq_true.1 (hb b x hx).1 v hv
  · intro b x hx ha
    exact (E.abs (f b) _ (hb b x hx).2 ha).ren (f := f) (r := []) rfl (by rw [List.append_nil]; exact em _) (fun c z hz => ⟨_, (hb c z hz).2, rfl⟩) fun c z hz _ _ hc => hi c b z x hz hx hc
theorem blk_pick {bs : List Nat} {cells : List (List Value × TypeId)} (hl : cells.length = bs.length) {i : Nat} {x : List Value × TypeId} (h : (⟨bs.length, cells.reverse⟩ : Hp).blk? i = some x) : i < bs.length ∧ (bs.getD i 0, x) ∈ bs.zip cells := by
  have hi : i < bs.length := Hp.blk_lt h
  refine ⟨hi, ?_⟩
  unfold Hp.blk? at h
  rw [if_pos (blt_iff.2 hi)] at h
  have h' : cells.reverse[bs.length - 1 - i]? = some x := h
  rw [List.getElem?_reverse (by omega), show cells.length - 1 - (bs.length - 1 - i) = i by omega] at h'
  refine List.mem_of_getElem? (i := i) ?_
  rw [List.getElem?_zip_eq_some]
  exact ⟨by rw [List.getD_eq_getElem?_getD, List.getElem?_eq_getElem hi]; rfl, h'⟩
/-- ahead of a piece of code: some blocks are kept, by their numbers -/
theorem RunsW.preP {T : Tab} {c : Code} {P : Ex → Lf → Prop} {front : List Value} (o : List (Option Value)) {n : Nat} {h : Hp} (bs : List Nat) (cells : List (List Value × TypeId)) {s s' : List Dec} {g : Nat → Value} (hr : ∀ j g, RunsW T c (fillO j o ++ tl n g, ⟨bs.length, cells.reverse⟩, s') P)
    (hl : cells.length = bs.length) (h0 : 0 < bs.length) (hf : matO (fun i => bs.getD i 0) o front) (hx : ∀ q ∈ bs.zip cells, (q.2.1.all (lt1 bs.length)) = true ∧ h.blk? q.1 = some (q.2.1.map (rn1 fun i => bs.getD i 0), q.2.2)) (hd : bs.Nodup) (hw : (o.all fun x => x.all (lt bs.length)) = true) :
    RunsW T c (front ++ tl n g, h, s) P := by
  intro m B a w R Q hQ
  obtain ⟨j, j1, j2⟩ := fill_mat (m := m) h0 o front hf fun v hv => List.all_eq_true.1 hw _ hv
  obtain ⟨g', hg⟩ := tl_of (J := (tl n g).map (fun v => Value.iface dead (mv m v))) (n := n) (by simp [tl_len])
  have R2 : Rel (fun i => m (bs.getD i 0)) B (fillO j o ++ tl n g', ⟨bs.length, cells.reverse⟩, s) a w := by
    refine compactR R (fun i => bs.getD i 0) (by simp [hl]) (fun i x hi => ?_) (fun i k x y hi hk hik => ?_) ?_ ?_
    · obtain ⟨_, q⟩ := blk_pick hl hi
      exact hx _ q
    · obtain ⟨q1, _⟩ := blk_pick hl hi
      obtain ⟨q2, _⟩ := blk_pick hl hk
      have e1 : bs.getD i 0 = bs[i] := by rw [List.getD_eq_getElem?_getD, List.getElem?_eq_getElem q1]; rfl
      have e2 : bs.getD k 0 = bs[k] := by rw [List.getD_eq_getElem?_getD, List.getElem?_eq_getElem q2]; rfl
      rw [e1, e2] at hik
      have hp := List.pairwise_iff_getElem.1 hd
      rcases Nat.lt_trichotomy i k with c | c | c
      · exact absurd hik (hp i k q1 q2 c)
      · exact c
      · exact absurd hik.symm (hp k i q2 q1 c)
    · rw [List.map_append, List.map_append, j1, ← hg, List.map_map]
      congr 1
    · intro v hv
      rcases List.mem_append.1 hv with hv | hv
      · exact j2 v hv
      · rw [← hg] at hv
        obtain ⟨u, _, rfl⟩ := List.mem_map.1 hv
        simp [lt, lt2, lt1, h0, dead]
  exact hr j g' _ B a w ⟨R2.tmps, R2.dfr, R2.emb, R2.wf⟩ Q hQ
theorem rn_undef (f : Nat → Nat) : rn f undef = undef := by kernel_rfl
end Go.KRun
namespace Go.Proofs.YtlmccannfocniaaDoor
open Go.KRun
theorem names : (Tryd.prog.funcs.toList.all fun F => !(F.name == "runtime.NumGoroutine")) = true := by kernel_rfl
theorem fns_ok (f : Nat) (F : Func) (h : Tryd.prog.funcs[f]? = some F) : Tryd.prog.funcs[f]? = some F ∧ (F.name == "runtime.NumGoroutine") = false :=
  ⟨h, by simpa using List.all_eq_true.1 names F (by simpa using Array.mem_of_getElem? h)⟩
def extY : Nat → List Value → Option (Value × Log) := fun _ _ => none
theorem extY_ok (f : Nat) (vals : List Value) (v : Value) (lg : Log) (h : extY f vals = some (v, lg)) (_hl : okLog lg) (w : World) : (callFunc f vals.toArray).run Tryd.prog w = .ok (.value v) w := by cases h
/-- what is known of calls -/
abbrev Con := Nat → List Value → List Dec → Option (Value × List Dec × Log)
structure ConOk (con : Con) : Prop where
  fn : ∀ f vals s v s' lg, con f vals s = some (v, s', lg) → ∃ F, Tryd.prog.funcs[f]? = some F ∧ F.body.isSome = true
  calls : ∀ f vals s v s' lg, con f vals s = some (v, s', lg) → okLog lg → ∀ w, Calls Tryd.prog f vals.toArray w fun e w' => e = .returned v ∧ Tidy w w'
def conN : Con := fun _ _ _ => none
theorem conN_ok : ConOk conN where
  fn := fun _ _ _ _ _ _ h => by simp [conN] at h
  calls := fun _ _ _ _ _ _ h => by simp [conN] at h
/-- the table of a program: 'sym': numbers may be letters -/
def tabOf (P : Program) (ext : Nat → List Value → Option (Value × Log)) (con : Con) (sym : Bool) : Tab := { P := P, fn := fun f => P.funcs[f]?, ext := ext, con := con, sym := sym }
theorem mixed : Tryd.prog.follows .mixedOrders = true := by kernel_rfl
theorem tabY_ok {con : Con} (h : ConOk con) : TabOk (tabOf Tryd.prog extY con true) where
  mixed := mixed
  ext := extY_ok
  con := fun f vals s v s' lg hc hl => ⟨by obtain ⟨F, h1, h2⟩ := h.fn f vals s v s' lg hc; exact ⟨F, (fns_ok f F h1).1, (fns_ok f F h1).2, h2⟩, h.calls f vals s v s' lg hc hl⟩
  fn := fns_ok
  hc := fun _ _ _ _ _ _ _ _ h => by cases h
abbrev Ans := List Value → List Dec → Option (Value × List Dec × Log)
def AnsOk (f : Nat) (g : Ans) : Prop := ∀ vals s v s' lg, g vals s = some (v, s', lg) → okLog lg → ∀ w, Calls Tryd.prog f vals.toArray w fun e w' => e = .returned v ∧ Tidy w w'
def alt (f : Nat) (g : Ans) (rest : Con) : Con := fun f' vals s => if f' = f then g vals s else rest f' vals s
theorem alt_ok {f : Nat} {g : Ans} {rest : Con} {F : Func} (hf : Tryd.prog.funcs[f]? = some F) (hb : F.body.isSome = true) (hg : AnsOk f g) (hr : ConOk rest) : ConOk (alt f g rest) where
  fn := fun f' vals s v s' lg h => by
    unfold alt at h
    split at h
    · rename_i he; subst he; exact ⟨F, hf, hb⟩
    · exact hr.fn _ _ _ _ _ _ h
  calls := fun f' vals s v s' lg h hl w => by
    unfold alt at h
    split at h
    · rename_i he; subst he; exact hg _ _ _ _ _ h hl w
    · exact hr.calls _ _ _ _ _ _ h hl w
end Go.Proofs.YtlmccannfocniaaDoor
namespace Go.Proofs.YtlmccannfocniaaDoor
open Go.RowKit Go.Extern.Stop Go.Stop Go.Extern
/-! ### what the model's entries for internal/reflectlite answer at these types -/
theorem as_valueOfP (t : Addr) (w : World) : (ReflectliteValue.unpack (.iface 55 (.pointer (some t)))).run Tryd.prog w
    = .ok (.agg #[.pointer (some ⟨10, 55, none⟩), .pointer (some ⟨w.heap.size, 0, none⟩), .int .u64 150]) (w.alloc (.cells #[.pointer (some t)] 55)) := by kernel_rfl
theorem as_typeP (a : Addr) (w : World) : (ReflectliteValue.methodAny (ReflectliteValue.valueError "reflectlite.Value.Type" 0) (fun t _ _ _ => ReflectliteType.toType t) #[.agg #[.pointer (some ⟨10, 55, none⟩), .pointer (some a), .int .u64 150]]).run Tryd.prog w
    = .ok (.iface 90 (.agg #[.pointer (some ⟨10, 55, none⟩)])) w := by kernel_rfl
theorem as_methodKind (h : Value) (w : World) : (Go.method 284 90 (.agg #[h]) "Kind").run Tryd.prog w = .ok (108, h) w := by kernel_rfl
theorem as_kindP (w : World) : ((ReflectliteType.abiMethod fun t => (fun a : Nat => Value.int IntKind.u8 (a : Int)) <$> Rtype.kind t) #[.pointer (some ⟨10, 55, none⟩)]).run Tryd.prog w = .ok (.int .u8 22) w := by kernel_rfl
theorem as_kindE (w : World) : ((ReflectliteType.abiMethod fun t => (fun a : Nat => Value.int IntKind.u8 (a : Int)) <$> Rtype.kind t) #[.pointer (some ⟨10, 49, none⟩)]).run Tryd.prog w = .ok (.int .u8 2) w := by kernel_rfl
theorem as_rlm (z : Sem Value) (f : TypeId → Addr → Nat → Nat → Sem Value) (v : Value) :
    ReflectliteValue.method z f #[v] = (do match ← ReflectliteValue.parts v with | none => z | some (t, a, fl) => f t a fl (fl % 32)) := rfl
theorem as_partsP (a : Addr) (w : World) : (ReflectliteValue.parts (.agg #[.pointer (some ⟨10, 55, none⟩), .pointer (some a), .int .u64 150])).run Tryd.prog w = .ok (some (55, a, 150)) w := by kernel_rfl
theorem as_isNilP (a p : Addr) (W : World) (ha : W.cell? a = some (.pointer (some p))) :
    (ReflectliteValue.method (ReflectliteValue.valueError "reflectlite.Value.IsNil" 0) ReflectliteValue.isNil #[.agg #[.pointer (some ⟨10, 55, none⟩), .pointer (some a), .int .u64 150]]).run Tryd.prog W = .ok (.bool false) W := by
  rw [as_rlm]
  simp only [Sem.run_bind, as_partsP, Result.andThen]
  simp [ReflectliteValue.isNil, loadVar, isAgg, underlying, Tryd.underlying55, ha, Result.andThen]
theorem as_methodElem (h : Value) (w : World) : (Go.method 284 90 (.agg #[h]) "Elem").run Tryd.prog w = .ok (118, .agg #[h]) w := by kernel_rfl
theorem as_methodImplements (h : Value) (w : World) : (Go.method 284 90 (.agg #[h]) "Implements").run Tryd.prog w = .ok (119, .agg #[h]) w := by kernel_rfl
theorem as_methodAssignableTo (h : Value) (w : World) : (Go.method 284 90 (.agg #[h]) "AssignableTo").run Tryd.prog w = .ok (116, .agg #[h]) w := by kernel_rfl
theorem as_elemP (w : World) : (ReflectliteType.method ReflectliteType.elem #[.agg #[.pointer (some ⟨10, 55, none⟩)]]).run Tryd.prog w = .ok (.iface 90 (.agg #[.pointer (some ⟨10, 49, none⟩)])) w := by kernel_rfl
theorem as_implementsE (w : World) : (ReflectliteType.relation "Implements" ReflectliteType.implements_ #[.agg #[.pointer (some ⟨10, 49, none⟩)], .iface 90 (.agg #[.pointer (some ⟨10, 26, none⟩)])]).run Tryd.prog w = .ok (.bool true) w := by kernel_rfl
theorem as_typeOfE (v : Value) (w : World) : (ReflectliteType.typeOf #[.iface 49 v]).run Tryd.prog w = .ok (.iface 90 (.agg #[.pointer (some ⟨10, 49, none⟩)])) w := by kernel_rfl
theorem as_assignableE (w : World) : (ReflectliteType.relation "AssignableTo" ReflectliteType.assignableTo #[.agg #[.pointer (some ⟨10, 49, none⟩)], .iface 90 (.agg #[.pointer (some ⟨10, 49, none⟩)])]).run Tryd.prog w = .ok (.bool true) w := by kernel_rfl
theorem as_valueOfE (n : Int) (w : World) : (ReflectliteValue.unpack (.iface 49 (.int .i64 n))).run Tryd.prog w
    = .ok (.agg #[.pointer (some ⟨10, 49, none⟩), .pointer (some ⟨w.heap.size, 0, none⟩), .int .u64 130]) (w.alloc (.cells #[.int .i64 n] 49)) := by kernel_rfl
theorem as_elemOfP (w : World) : (Rtype.elem? 55).run Tryd.prog w = .ok (some 49) w := by kernel_rfl
theorem as_mkE (p : Addr) (w : World) : (ReflectliteValue.mk 49 p ReflectliteValue.flagAddr).run Tryd.prog w = .ok (.agg #[.pointer (some ⟨10, 49, none⟩), .pointer (some p), .int .u64 386]) w := by kernel_rfl
theorem as_elemVP (a p : Addr) (W : World) (ha : W.cell? a = some (.pointer (some p))) :
    (ReflectliteValue.method (ReflectliteValue.valueError "reflectlite.Value.Elem" 0) ReflectliteValue.elem #[.agg #[.pointer (some ⟨10, 55, none⟩), .pointer (some a), .int .u64 150]]).run Tryd.prog W
      = .ok (.agg #[.pointer (some ⟨10, 49, none⟩), .pointer (some p), .int .u64 386]) W := by
  rw [as_rlm]
  simp only [Sem.run_bind, as_partsP, Result.andThen]
  simp [ReflectliteValue.elem, loadVar, isAgg, underlying, Tryd.underlying55, ha, Result.andThen, as_elemOfP, as_mkE]
theorem as_partsEa (a : Addr) (w : World) : (ReflectliteValue.parts (.agg #[.pointer (some ⟨10, 49, none⟩), .pointer (some a), .int .u64 386])).run Tryd.prog w = .ok (some (49, a, 386)) w := by kernel_rfl
theorem as_partsE (a : Addr) (w : World) : (ReflectliteValue.parts (.agg #[.pointer (some ⟨10, 49, none⟩), .pointer (some a), .int .u64 130])).run Tryd.prog w = .ok (some (49, a, 130)) w := by kernel_rfl
theorem as_directE (w : World) : (Rtype.directlyAssignable 49 49).run Tryd.prog w = .ok true w := by kernel_rfl
theorem as_setE (ta b : Addr) (n : Int) (old : Value) (W : World) (hb : W.cell? b = some (.int .i64 n)) (ht : W.cell? ta = some old) (hf : W.frozen? ta = false) :
    (ReflectliteValue.set #[.agg #[.pointer (some ⟨10, 49, none⟩), .pointer (some ta), .int .u64 386], .agg #[.pointer (some ⟨10, 49, none⟩), .pointer (some b), .int .u64 130]]).run Tryd.prog W
      = .ok (.tuple #[]) (W.setCell ta (.int .i64 n)) := by
  have e : ∀ v x : Value, ReflectliteValue.set #[v, x] = (ReflectliteValue.parts v >>= fun p => ReflectliteValue.parts x >>= fun q => _) := fun _ _ => rfl
  rw [e]
  simp only [Sem.run_bind, as_partsEa, as_partsE, Result.andThen]
  simp [ReflectliteValue.flagAddr, loadVar, isAgg, underlying, Tryd.underlying49, hb, Result.andThen, as_directE, storeVar, Value.cells, storeCells, Addr.add]
  rw [run_store Tryd.prog W ta _ _ (by rfl)]
  simp [ht, hf]
/-- what lies in the variable errors.errorType -/
def errT : Value := .iface 90 (.agg #[.pointer (some ⟨10, 26, none⟩)])
/-- the world behind the call -/
def asW (n : Int) (t : Addr) (w : World) : World := ((((w.alloc (.cells #[.pointer (some t)] 55)).alloc (.cells #[.pointer (some ⟨10, 55, none⟩), .pointer (some ⟨w.heap.size, 0, none⟩), .int .u64 150] 69)).alloc (.cells #[.pointer (some ⟨10, 55, none⟩), .pointer (some ⟨w.heap.size, 0, none⟩), .int .u64 150] 69)).alloc (.cells #[.int .i64 n] 49)).setCell t (.int .i64 n)
set_option maxHeartbeats 4000000 in
theorem as_hit (n : Int) (t : Addr) (old : Value) (w : World) (hg : w.cell? ⟨1, 0, none⟩ = some (.iface 90 (.agg #[.pointer (some ⟨10, 26, none⟩)]))) (ht0 : w.cell? t = some old) (hf0 : w.frozen? t = false) :
    Calls Tryd.prog 24 #[.iface 49 (.int .i64 n), .iface 55 (.pointer (some t))] w fun ev w' => ev = .returned (.bool true) ∧ w' = ((((w.alloc (.cells #[.pointer (some t)] 55)).alloc (.cells #[.pointer (some ⟨10, 55, none⟩), .pointer (some ⟨w.heap.size, 0, none⟩), .int .u64 150] 69)).alloc (.cells #[.pointer (some ⟨10, 55, none⟩), .pointer (some ⟨w.heap.size, 0, none⟩), .int .u64 150] 69)).alloc (.cells #[.int .i64 n] 49)).setCell t (.int .i64 n) := by
  have h6 := @run_callFunc_extern Tryd.prog 34 _ (fun args => ReflectliteValue.unpack (args.getD 0 (.tuple #[]))) Tryd.func34 (by kernel_rfl) (by kernel_rfl) (by kernel_rfl) (by kernel_rfl)
  have h7 := @run_callFunc_extern Tryd.prog 35 _ (ReflectliteValue.methodAny (ReflectliteValue.valueError "reflectlite.Value.Type" 0) (fun t _ _ _ => ReflectliteType.toType t)) Tryd.func35 (by kernel_rfl) (by kernel_rfl) (by kernel_rfl) (by kernel_rfl)
  have h8 := @run_callFunc_extern Tryd.prog 36 _ (ReflectliteValue.method (ReflectliteValue.valueError "reflectlite.Value.IsNil" 0) ReflectliteValue.isNil) Tryd.func36 (by kernel_rfl) (by kernel_rfl) (by kernel_rfl) (by kernel_rfl)
  have h27 := @run_callFunc_extern Tryd.prog 108 _ (ReflectliteType.abiMethod fun t => do pure (.int .u8 (← Rtype.kind t))) Tryd.func108 (by kernel_rfl) (by kernel_rfl) (by kernel_rfl) (by kernel_rfl)
  have h37 := @run_callFunc_extern Tryd.prog 118 _ (ReflectliteType.method ReflectliteType.elem) Tryd.func118 (by kernel_rfl) (by kernel_rfl) (by kernel_rfl) (by kernel_rfl)
  have h38 := @run_callFunc_extern Tryd.prog 119 _ (ReflectliteType.relation "Implements" ReflectliteType.implements_) Tryd.func119 (by kernel_rfl) (by kernel_rfl) (by kernel_rfl) (by kernel_rfl)
  have h10 := @run_callFunc_extern Tryd.prog 45 _ ReflectliteType.typeOf Tryd.func45 (by kernel_rfl) (by kernel_rfl) (by kernel_rfl) (by kernel_rfl)
  have h35 := @run_callFunc_extern Tryd.prog 116 _ (ReflectliteType.relation "AssignableTo" ReflectliteType.assignableTo) Tryd.func116 (by kernel_rfl) (by kernel_rfl) (by kernel_rfl) (by kernel_rfl)
  have h11 := @run_callFunc_extern Tryd.prog 46 _ (ReflectliteValue.method (ReflectliteValue.valueError "reflectlite.Value.Elem" 0) ReflectliteValue.elem) Tryd.func46 (by kernel_rfl) (by kernel_rfl) (by kernel_rfl) (by kernel_rfl)
  have h12 := @run_callFunc_extern Tryd.prog 47 _ ReflectliteValue.set Tryd.func47 (by kernel_rfl) (by kernel_rfl) (by kernel_rfl) (by kernel_rfl)
  have tO := as_typeOfE
  have mA := as_methodAssignableTo
  have aE := as_assignableE
  have vE := as_valueOfE
  have f6 := as_valueOfP
  have f7 := as_typeP
  have mK := as_methodKind
  have mE := as_methodElem
  have mI := as_methodImplements
  have kP := as_kindP
  have kE := as_kindE
  have eP := as_elemP
  have iE := as_implementsE
  have n8 := as_isNilP ⟨w.heap.size, 0, none⟩ t ((w.alloc (.cells #[.pointer (some t)] 55)).alloc (.cells #[.pointer (some ⟨10, 55, none⟩), .pointer (some ⟨w.heap.size, 0, none⟩), .int .u64 150] 69)) (by simp)
  have hlt : 1 < w.heap.size := by
    rcases Nat.lt_or_ge 1 w.heap.size with h | h
    · exact h
    · simp [World.cell?, Array.getElem?_eq_none h] at hg
  have hg2 : ((w.alloc (.cells #[.pointer (some t)] 55)).alloc (.cells #[.pointer (some ⟨10, 55, none⟩), .pointer (some ⟨w.heap.size, 0, none⟩), .int .u64 150] 69)).cell? ⟨1, 0, none⟩ = some (.iface 90 (.agg #[.pointer (some ⟨10, 26, none⟩)])) := by
    rw [World.cell?_alloc_lt _ _ ⟨1, 0, none⟩ (Nat.lt_of_lt_of_le hlt (by simp)), World.cell?_alloc_lt _ _ ⟨1, 0, none⟩ hlt]; exact hg
  have htl : t.block < w.heap.size := by
    rcases Nat.lt_or_ge t.block w.heap.size with h | h
    · exact h
    · simp [World.cell?, Array.getElem?_eq_none h] at ht0
  have el := as_elemVP ⟨w.heap.size, 0, none⟩ t (((w.alloc (.cells #[.pointer (some t)] 55)).alloc (.cells #[.pointer (some ⟨10, 55, none⟩), .pointer (some ⟨w.heap.size, 0, none⟩), .int .u64 150] 69)).alloc (.cells #[.pointer (some ⟨10, 55, none⟩), .pointer (some ⟨w.heap.size, 0, none⟩), .int .u64 150] 69)) (by rw [World.cell?_alloc_lt _ _ ⟨w.heap.size, 0, none⟩ (by simp; omega)]; simp)
  have st := as_setE t ⟨w.heap.size + 1 + 1 + 1, 0, none⟩ n old ((((w.alloc (.cells #[.pointer (some t)] 55)).alloc (.cells #[.pointer (some ⟨10, 55, none⟩), .pointer (some ⟨w.heap.size, 0, none⟩), .int .u64 150] 69)).alloc (.cells #[.pointer (some ⟨10, 55, none⟩), .pointer (some ⟨w.heap.size, 0, none⟩), .int .u64 150] 69)).alloc (.cells #[.int .i64 n] 49))
    (by rw [World.cell?_alloc_at _ _ _ _ (by simp)]; rfl)
    (by rw [World.cell?_alloc_lt _ _ t (by simp; omega), World.cell?_alloc_lt _ _ t (by simp; omega), World.cell?_alloc_lt _ _ t (by simp; omega), World.cell?_alloc_lt _ _ t htl]; exact ht0)
    (by rw [World.frozen?_alloc_old _ _ t (by simp; omega), World.frozen?_alloc_old _ _ t (by simp; omega), World.frozen?_alloc_old _ _ t (by simp; omega), World.frozen?_alloc_old _ _ t (Nat.ne_of_lt htl)]; exact hf0)
  go_enter Tryd.func24, Tryd.ntmps24
  go_wp2
  refine wp_loop_rounds 1 ?_
  rw [rounds_succ]
  go_wp2
  go_ret
  exact ⟨rfl, rfl⟩
end Go.Proofs.YtlmccannfocniaaDoor
