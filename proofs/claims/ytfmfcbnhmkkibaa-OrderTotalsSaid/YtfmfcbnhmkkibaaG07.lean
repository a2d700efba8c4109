/-
  A RUN THAT THE KERNEL RECKONS, X: pieces of code told by the first temporaries alone: the others are whatever they are.
-/
import Derived.Test.YtfmfcbnhmkkibaaG06
import Derived.OneCell
namespace Go.KRun
open Go.RowKit

/-- temporaries of which nothing is known but how many they are -/
def tl (n : Nat) (g : Nat → Value) : List Value := (List.range n).map g
theorem tl_of {J : List Value} {n : Nat} (h : J.length = n) : ∃ g, J = tl n g := by
  refine ⟨fun i => J.getD i undef, ?_⟩
  unfold tl
  refine List.ext_getElem (by simp [h]) fun i h1 h2 => ?_
  simp [h1]
/-- What is to be reckoned of a piece of code: how it ends, the first k temporaries and how many more there are, the memory, what was decided. -/
def GoesT (r : Option (Ex × Lf × Lg)) (k n : Nat) (e : Ex) (front : List Value) (h : Hp) (cs : Log) : Prop :=
  r.map (fun r => (r.1, r.2.1.1.take k, (r.2.1.1.drop k).length, r.2.1.2.1, r.2.2.cs)) = some (e, front, n, h, cs) ∧
    r.map (fun r => r.2.2.es.map Prod.fst) = r.map (fun r => r.2.2.es.map Prod.snd) ∧ r.map (fun r => r.2.2.bs.map Prod.fst) = r.map (fun r => r.2.2.bs.map Prod.snd)
/-- the same, where no order is drawn -/
def GoesE (r : Option (Ex × Lf × Lg)) (k n : Nat) (e : Ex) (front : List Value) (h : Hp) (cs : Log) : Prop :=
  r.map (fun r => (r.1, r.2.1.1.take k, (r.2.1.1.drop k).length, r.2.1.2.1, r.2.2.cs, r.2.2.es, r.2.2.bs)) = some (e, front, n, h, cs, [], [])
theorem GoesE.t {r : Option (Ex × Lf × Lg)} {k n : Nat} {e : Ex} {front : List Value} {h : Hp} {cs : Log} (hG : GoesE r k n e front h cs) : GoesT r k n e front h cs := by
  unfold GoesE at hG
  cases r with
  | none => cases hG
  | some r =>
    simp only [Option.map_some, Option.some.injEq, Prod.mk.injEq] at hG
    obtain ⟨h1, h2, h3, h4, h5, h6, h7⟩ := hG
    refine ⟨?_, ?_, ?_⟩
    · rw [Option.map_some, h1, h2, h3, h4, h5]
    · simp [h6]
    · simp [h7]
theorem goesT_some {r : Option (Ex × Lf × Lg)} {k n : Nat} {e : Ex} {front : List Value} {h : Hp} {cs : Log} (hG : GoesT r k n e front h cs) (hcs : okLog cs) : ∃ g s L, r = some (e, (front ++ tl n g, h, s), L) ∧ L.ok := by
  obtain ⟨h1, h5, h6⟩ := hG
  cases r with
  | none => cases h1
  | some r =>
    simp only [Option.map_some, Option.some.injEq, Prod.mk.injEq] at h1 h5 h6
    obtain ⟨e', ⟨t', h', s'⟩, L⟩ := r
    simp only at h1 h5 h6
    obtain ⟨h1, h2, h3, h4, h7⟩ := h1
    subst h1 h4
    obtain ⟨g, hg⟩ := tl_of h3
    refine ⟨g, s', L, ?_, by rw [h7]; exact hcs, all_eq _ h5, all_eq _ h6⟩
    rw [← h2, ← hg, List.take_append_drop]
theorem goesT_runs {T : Tab} (hT : TabOk T) {N : Nat} {c : Code} {t : List Value} {h h' : Hp} {s s0 : List Dec} {k n : Nat} {e : Ex} {front : List Value} {cs : Log} (hG : GoesT (evC T N false c (t, h, s) ⟨[], [], []⟩) k n e front h' cs) (hcs : okLog cs) :
    Runs T c (t, h, s0) fun e' y => e' = e ∧ (∃ g, y.1 = front ++ tl n g) ∧ y.2.1 = h' := by
  obtain ⟨g, s', L, hr, hL⟩ := goesT_some hG hcs
  refine Runs.script ((Runs.ev hT hr hL).mono fun e2 y he => ?_)
  obtain ⟨rfl, rfl⟩ := he
  exact ⟨rfl, ⟨g, rfl⟩, rfl⟩
theorem goesT_list {T : Tab} (hT : TabOk T) {N : Nat} {l : List Code} {X : Code} {t : List Value} {h h' : Hp} {s s0 : List Dec} {k n : Nat} {e : Ex} {front : List Value} {cs : Log} {P : Ex → Lf → Prop} (hG : GoesT (evL T N l (t, h, s) ⟨[], [], []⟩) k n e front h' cs) (hcs : okLog cs)
    (hX : ∀ g, Runs T X (front ++ tl n g, h', []) P) : Runs T (seqs l X) (t, h, s0) P := by
  obtain ⟨g, s', L, hr, hL⟩ := goesT_some hG hcs
  obtain ⟨_, _, h3⟩ := evL_ok (X := X) (P := P) hT l _ _ _ _ _ hr hL
  exact Runs.script (h3 (Runs.script (hX g)))
/-- a call out of its body, where its arguments lie in memory that is there: what it answers, and that memory behind it -/
theorem hcalls_of_runs {T : Tab} {f : Nat} {F : Func} {c : Code} (hF : T.P.funcs[f]? = some F) (hc : F.body = some c) {vals : List Value} {v : Value} {h h' : Hp} (hv : lt 0 v = true) (ht : h'.tight = true)
    (hr : Runs T c (vals ++ List.replicate (F.ntmps - vals.length) undef, h, []) fun e y => (e = none ∨ e = some none) ∧ resS T.P F y.1 y.2.1 = some v ∧ y.2.1.cut h.n = h') (m : Mp) (B : Nat) (w : World) (E : Emb m B h w) (hvals : ∀ v ∈ vals, lt h.n v = true) :
    Calls T.P f (vals.map (mv m)).toArray w fun e w' => ∃ m', e = .returned (mv m' v) ∧ Came m B h w v h' m' w' := by
  refine calls_of_wp hF hc ?_
  have R : Rel m B (vals ++ List.replicate (F.ntmps - vals.length) undef, h, []) { tmps := (vals.map (mv m)).toArray ++ Array.replicate (F.ntmps - (vals.map (mv m)).toArray.size) undef, defers := [] } w := by
    refine ⟨?_, rfl, E, ?_⟩
    · simp [mv_undef]
    · intro y hy
      rcases List.mem_append.1 hy with hy | hy
      · exact hvals y hy
      · rw [List.eq_of_mem_replicate hy]; simp [undef, lt]
  refine hr _ _ _ w R _ fun e y he a' w' hR => ?_
  obtain ⟨hex, hres, hcut⟩ := he
  obtain ⟨m', k1, k2, k3, k4⟩ := hR
  obtain ⟨r1, r2⟩ := resS_run k2.emb k2.wf hres
  rw [← k2.tmps, mv_still hv] at r1
  have k4' : h.n ≤ y.2.1.n := k4
  have C : Came m B h w v h' m w' := by
    subst hcut
    exact ⟨Agree.refl _ _, k2.emb.cut k1 k4' ht, k3, by simp [Hp.cut], lt_mono (Nat.zero_le _) hv⟩
  have post : a'.defers = [] ∧ ∃ v', (results F a'.tmps).run T.P w' = .ok v' w' ∧ ∃ m', Ending.returned v' = .returned (mv m' v) ∧ Came m B h w v h' m' w' :=
    ⟨k2.dfr, _, r1, m, by rw [mv_still hv], C⟩
  rcases hex with rfl | rfl <;> exact post
/-- a 'for': what stands ahead of it, and its rounds -/
theorem Runs.forLoop {T : Tab} {c : Code} {id : Nat} {x : Lf} {P : Lf → Prop} {R : Lf → Prop} (Inv : Nat → Lf → Prop)
    (round : ∀ n x, Inv n x → Runs T c x fun e y => match e with | none => ∃ n', n' < n ∧ Inv n' y | some none => R y | some (some id') => id' = id ∧ P y) {n : Nat} (h0 : Inv n x) :
    Runs T (.block id (.loop c)) x fun e y => match e with | none => P y | some none => R y | some (some _) => False := by
  refine Runs.block (P1 := fun e y => match e with | none => False | some none => R y | some (some id') => id' = id ∧ P y) ?_ (fun y he => he.elim) (fun y he => he) (fun y he => he.2) (fun id' y hid he => absurd he.1 hid)
  refine Runs.loop Inv (fun n x hI => (round n x hI).mono fun e y he => ?_) h0
  match e, he with
  | none, he => exact he
  | some none, he => exact he
  | some (some id'), he => exact he
end Go.KRun

/-
  A RUN THAT THE KERNEL RECKONS, XI: code taken piece by piece, where blocks that are no more reached are let go behind a round, and their numbers given anew.
-/
namespace Go.KRun
open Go.RowKit

def RunsW (T : Tab) (c : Code) (x : Lf) (Post : Ex → Lf → Prop) : Prop :=
  ∀ m B a w, Rel m B x a w → ∀ Q : Exit → Act → World → Prop, (∀ e y, Post e y → ∀ m' a' w', Rel m' B y a' w' → Below B w w' → Q (out e) a' w') → c.wp T.P Q a w
theorem Runs.w {T : Tab} {c : Code} {x : Lf} {P : Ex → Lf → Prop} (h : Runs T c x P) : RunsW T c x P := fun m B a w R Q hQ => h m B a w R Q fun e y he a' w' hR => by
  obtain ⟨m', _, k2, k3, _⟩ := hR
  exact hQ e y he m' a' w' k2 k3
/-- the state behind it told otherwise -/
theorem RunsW.post {T : Tab} {c : Code} {x : Lf} {P P' : Ex → Lf → Prop} (h : RunsW T c x P) (hp : ∀ e y, P e y → ∃ y', P' e y' ∧ ∀ m B a w, Rel m B y a w → ∃ m', Rel m' B y' a w) : RunsW T c x P' :=
  fun m B a w R Q hQ => h m B a w R Q fun e y he m' a' w' hR hb => by
    obtain ⟨y', h1, h2⟩ := hp e y he
    obtain ⟨m2, h3⟩ := h2 m' B a' w' hR
    exact hQ e y' h1 m2 a' w' h3 hb
theorem RunsW.mono {T : Tab} {c : Code} {x : Lf} {P P' : Ex → Lf → Prop} (h : RunsW T c x P) (hp : ∀ e y, P e y → P' e y) : RunsW T c x P' := h.post fun e y he => ⟨y, hp e y he, fun m _ _ _ R => ⟨m, R⟩⟩
theorem RunsW.seq {T : Tab} {c1 c2 : Code} {x : Lf} {P1 P : Ex → Lf → Prop} (h1 : RunsW T c1 x P1) (h2 : ∀ y, P1 none y → RunsW T c2 y P) (h3 : ∀ e y, P1 (some e) y → P (some e) y) : RunsW T (.seq c1 c2) x P := by
  intro m B a w R Q hQ
  refine wp_seq (h1 m B a w R _ fun e y he m' a' w' hR hb => ?_)
  match e, he with
  | none, he => exact h2 y he m' B a' w' hR Q fun e' y' he' m'' a'' w'' hR' hb' => hQ e' y' he' m'' a'' w'' hR' (hb.trans hb')
  | some none, he => exact hQ _ _ (h3 none y he) m' a' w' hR hb
  | some (some id), he => exact hQ _ _ (h3 (some id) y he) m' a' w' hR hb
theorem RunsW.block {T : Tab} {c : Code} {id : Nat} {x : Lf} {P1 P : Ex → Lf → Prop} (h1 : RunsW T c x P1) (h2 : ∀ y, P1 none y → P none y) (h3 : ∀ y, P1 (some none) y → P (some none) y)
    (h4 : ∀ y, P1 (some (some id)) y → P none y) (h5 : ∀ id' y, id' ≠ id → P1 (some (some id')) y → P (some (some id')) y) : RunsW T (.block id c) x P := by
  intro m B a w R Q hQ
  refine wp_block (h1 m B a w R _ fun e y he m' a' w' hR hb => ?_)
  match e, he with
  | none, he => exact hQ _ _ (h2 y he) m' a' w' hR hb
  | some none, he => exact hQ _ _ (h3 y he) m' a' w' hR hb
  | some (some id'), he =>
    simp only [out, Exit.inBlock]
    by_cases hid : id' = id
    · subst hid
      rw [if_pos rfl]
      exact hQ _ _ (h4 y he) m' a' w' hR hb
    · rw [if_neg hid]
      exact hQ _ _ (h5 id' y hid he) m' a' w' hR hb
theorem RunsW.loop {T : Tab} {c : Code} {P : Ex → Lf → Prop} (Inv : Nat → Lf → Prop) (round : ∀ n x, Inv n x → RunsW T c x fun e y => match e with | none => ∃ n', n' < n ∧ Inv n' y | some e => P (some e) y) {n : Nat} {x : Lf} (h0 : Inv n x) :
    RunsW T (.loop c) x P := by
  have key : ∀ N n x, n < N → Inv n x → ∀ m B a w, Rel m B x a w → ∀ Q : Exit → Act → World → Prop, (∀ e y, P e y → ∀ m' a' w', Rel m' B y a' w' → Below B w w' → Q (out e) a' w') → Code.rounds T.P c Q N a w := by
    intro N
    induction N with
    | zero => intro n x hn; omega
    | succ N ih =>
      intro n x hn hI m B a w R Q hQ
      rw [rounds_succ]
      refine round n x hI m B a w R _ fun e y he m' a' w' hR hb => ?_
      match e, he with
      | none, he =>
        obtain ⟨n', hn', hI'⟩ := he
        exact ih n' y (by omega) hI' m' B a' w' hR Q fun e' y' he' m'' a'' w'' hR' hb' => hQ e' y' he' m'' a'' w'' hR' (hb.trans hb')
      | some none, he => exact hQ _ _ he m' a' w' hR hb
      | some (some id), he => exact hQ _ _ he m' a' w' hR hb
  intro m B a w R Q hQ
  exact wp_loop_rounds (n + 1) (key (n + 1) n x (by omega) h0 m B a w R Q hQ)
theorem calls_of_runsW {T : Tab} {f : Nat} {F : Func} {c : Code} (hF : T.P.funcs[f]? = some F) (hc : F.body = some c) {vals : List Value} {v : Value} (hvals : (vals.all (lt 0)) = true) (hv : lt 0 v = true)
    (h : RunsW T c (vals ++ List.replicate (F.ntmps - vals.length) undef, ⟨0, []⟩, []) fun e y => (e = none ∨ e = some none) ∧ resS T.P F y.1 y.2.1 = some v) (w : World) :
    Calls T.P f vals.toArray w fun e w' => e = .returned v ∧ Tidy w w' := by
  have E : Emb (fun b => (b, 0)) w.heap.size ⟨0, []⟩ w :=
    Emb.none w
  have hst : ∀ y ∈ vals, lt 0 y = true := List.all_eq_true.1 hvals
  have e0 : vals.map (mv fun b => (b, 0)) = vals := (List.map_congr_left fun y hy => mv_still (hst y hy)).trans (List.map_id' _)
  refine calls_of_wp hF hc ?_
  have R : Rel (fun b => (b, 0)) w.heap.size (vals ++ List.replicate (F.ntmps - vals.length) undef, ⟨0, []⟩, []) { tmps := vals.toArray ++ Array.replicate (F.ntmps - vals.toArray.size) undef, defers := [] } w := by
    refine ⟨?_, rfl, E, ?_⟩
    · simp [mv_undef, e0]
    · intro y hy
      rcases List.mem_append.1 hy with hy | hy
      · exact hst y hy
      · rw [List.eq_of_mem_replicate hy]; simp [undef, lt]
  refine h _ _ _ w R _ fun e y he m' a' w' k2 k3 => ?_
  obtain ⟨hex, hres⟩ := he
  obtain ⟨r1, r2⟩ := resS_run k2.emb k2.wf hres
  rw [← k2.tmps, mv_still hv] at r1
  have post : a'.defers = [] ∧ ∃ v', (results F a'.tmps).run T.P w' = .ok v' w' ∧ (Ending.returned v' = .returned v ∧ Tidy w w') :=
    ⟨k2.dfr, _, r1, rfl, k3, fun k h1 h2 => k2.emb.ice k h1 h2⟩
  rcases hex with rfl | rfl <;> exact post
theorem RunsW.script {T : Tab} {c : Code} {t : List Value} {h : Hp} {s s' : List Dec} {P : Ex → Lf → Prop} (hr : RunsW T c (t, h, s) P) : RunsW T c (t, h, s') P :=
  fun m B a w R Q hQ => hr m B a w ⟨R.tmps, R.dfr, R.emb, R.wf⟩ Q hQ
theorem goesT_listW {T : Tab} (hT : TabOk T) {N : Nat} {l : List Code} {X : Code} {t : List Value} {h h' : Hp} {s s0 : List Dec} {k n : Nat} {e : Ex} {front : List Value} {cs : Log} {P : Ex → Lf → Prop} (hG : GoesT (evL T N l (t, h, s) ⟨[], [], []⟩) k n e front h' cs) (hcs : okLog cs)
    (hX : ∀ g, RunsW T X (front ++ tl n g, h', []) P) : RunsW T (seqs l X) (t, h, s0) P := by
  obtain ⟨g, s', L, hr, hL⟩ := goesT_some hG hcs
  have key : ∀ (cs : List Code) (x x' : Lf) (L L' : Lg) (e : Ex), evL T N cs x L = some (e, x', L') → L'.ok → L.ok ∧ (RunsW T X x' P → RunsW T (seqs cs X) x P) := by
    intro cs
    induction cs with
    | nil =>
      intro x x' L L' e h hL
      simp only [evL] at h
      cases h
      exact ⟨hL, id⟩
    | cons c cs ih =>
      intro x x' L L' e h hL
      simp only [evL] at h
      split at h
      · rename_i x1 L1 h1
        obtain ⟨g1, g3⟩ := ih x1 x' L1 L' e h hL
        obtain ⟨g4, g5⟩ := (evC_ok hT N).1 _ _ _ _ _ _ h1 g1
        refine ⟨g4, fun hX m B a w R Q hQ => wp_seq (g5 m B a w R _ fun a' w' hR => ?_)⟩
        obtain ⟨m', _, k2, k3, _⟩ := hR
        exact g3 hX m' B a' w' k2 Q fun e' y' he' m'' a'' w'' hR' hb' => hQ e' y' he' m'' a'' w'' hR' (k3.trans hb')
      · cases h
  have r := (key l _ _ _ _ _ hr hL).2 (RunsW.script (hX g))
  exact RunsW.script r
/-- the newest block takes the place of the one below it, which is let go -/
theorem slide {m : Mp} {B : Nat} {t : List Value} {k : Nat} {x y : List Value × TypeId} {l : List (List Value × TypeId)} {s : List Dec} {a : Act} {w : World} (R : Rel m B (t, ⟨k + 2, x :: y :: l⟩, s) a w) (hc : (⟨k + 2, x :: y :: l⟩ : Hp).calm = true)
    (ht : ∀ v ∈ t, lt (k + 1) (rn (swp k (k + 1)) v) = true) : ∃ m', Rel m' B (t.map (rn (swp k (k + 1))), ⟨k + 1, x :: l⟩, s) a w := by
  obtain ⟨r1, _⟩ := swapLf_rel R (i := k) (j := k + 1) (by omega) (by show k + 1 < k + 2; omega) hc
  have e1 : (⟨k + 2, x :: y :: l⟩ : Hp).blk? k = some y := by
    unfold Hp.blk?
    rw [if_pos (blt_iff.2 (by show k < k + 2; omega))]
    show (x :: y :: l)[k + 2 - 1 - k]? = some y
    rw [show k + 2 - 1 - k = 1 from by omega]
    rfl
  have e2 : (⟨k + 2, x :: y :: l⟩ : Hp).blk? (k + 1) = some x := by
    unfold Hp.blk?
    rw [if_pos (blt_iff.2 (by show k + 1 < k + 2; omega))]
    show (x :: y :: l)[k + 2 - 1 - (k + 1)]? = some x
    rw [show k + 2 - 1 - (k + 1) = 0 from by omega]
    rfl
  have e3 : swapLf k (k + 1) (t, ⟨k + 2, x :: y :: l⟩, s) = (t.map (rn (swp k (k + 1))), ⟨k + 2, y :: x :: l⟩, s) := by
    unfold swapLf
    simp only [e1, e2]
    unfold Hp.put
    simp only
    rw [show k + 2 - 1 - k = 1 from by omega, show k + 2 - 1 - (k + 1) = 0 from by omega]
    rfl
  rw [e3] at r1
  have e4 : (⟨k + 2, y :: x :: l⟩ : Hp).cut (k + 1) = ⟨k + 1, x :: l⟩ := by
    unfold Hp.cut
    simp only
    rw [show k + 2 - (k + 1) = 1 from by omega]
    rfl
  have tg : ((⟨k + 2, y :: x :: l⟩ : Hp).cut (k + 1)).tight = true := by
    rw [e4]
    unfold Hp.tight Hp.calm at *
    simp only [List.all_eq_true] at *
    intro b hb v hv
    refine lt1_mono (Nat.zero_le _) (hc b ?_ v hv)
    rcases List.mem_cons.1 hb with rfl | hb
    · exact List.mem_cons_self
    · exact List.mem_cons_of_mem _ (List.mem_cons_of_mem _ hb)
  have E := Emb.cut (n := k + 1) r1.emb (Agree.refl _ _) (by show k + 1 ≤ k + 2; omega) tg
  simp only at E
  rw [e4] at E
  refine ⟨_, r1.tmps, r1.dfr, E, fun v hv => ?_⟩
  obtain ⟨u, hu, rfl⟩ := List.mem_map.1 hv
  exact ht u hu
end Go.KRun

/-
  A RUN THAT THE KERNEL RECKONS, XII: code taken piece by piece in worlds of which something is known that no later world turns; a region one of whose calls is known in such worlds alone.
-/
namespace Go.KRun
open Go.RowKit

def RunsAt (G : World → Prop) (T : Tab) (c : Code) (x : Lf) (Post : Ex → Lf → Prop) : Prop :=
  ∀ m B a w, Rel m B x a w → (∀ w', Below B w w' → G w') → ∀ Q : Exit → Act → World → Prop, (∀ e y, Post e y → ∀ m' a' w', Rel m' B y a' w' → Below B w w' → Q (out e) a' w') → c.wp T.P Q a w
theorem RunsW.known {G : World → Prop} {T : Tab} {c : Code} {x : Lf} {P : Ex → Lf → Prop} (h : RunsW T c x P) : RunsAt G T c x P := fun m B a w R _ Q hQ => h m B a w R Q hQ
theorem RunsAt.mono {G : World → Prop} {T : Tab} {c : Code} {x : Lf} {P P' : Ex → Lf → Prop} (h : RunsAt G T c x P) (hp : ∀ e y, P e y → P' e y) : RunsAt G T c x P' :=
  fun m B a w R hG Q hQ => h m B a w R hG Q fun e y he => hQ e y (hp e y he)
theorem RunsAt.seq {G : World → Prop} {T : Tab} {c1 c2 : Code} {x : Lf} {P1 P : Ex → Lf → Prop} (h1 : RunsAt G T c1 x P1) (h2 : ∀ y, P1 none y → RunsAt G T c2 y P) (h3 : ∀ e y, P1 (some e) y → P (some e) y) : RunsAt G T (.seq c1 c2) x P := by
  intro m B a w R hG Q hQ
  refine wp_seq (h1 m B a w R hG _ fun e y he m' a' w' hR hb => ?_)
  match e, he with
  | none, he => exact h2 y he m' B a' w' hR (fun w'' hb' => hG w'' (hb.trans hb')) Q fun e' y' he' m'' a'' w'' hR' hb' => hQ e' y' he' m'' a'' w'' hR' (hb.trans hb')
  | some none, he => exact hQ _ _ (h3 none y he) m' a' w' hR hb
  | some (some id), he => exact hQ _ _ (h3 (some id) y he) m' a' w' hR hb
theorem RunsAt.yes {G : World → Prop} {T : Tab} {b : Operand} {c1 c2 : Code} {x : Lf} {P : Ex → Lf → Prop} (hb : okX b = true) (hv : ev x.1 b = .bool true) (h : RunsAt G T c1 x P) : RunsAt G T (.cond b c1 c2) x P :=
  fun m B a w R hG Q hQ => wp_cond_true (by rw [eval_mv R.tmps hb, hv]; rfl) (h m B a w R hG Q hQ)
theorem RunsAt.list {G : World → Prop} {T : Tab} (hT : TabOk T) {N : Nat} {l : List Code} {X : Code} {t : List Value} {h h' : Hp} {s s0 : List Dec} {k n : Nat} {e : Ex} {front : List Value} {cs : Log} {P : Ex → Lf → Prop} (hG : GoesT (evL T N l (t, h, s) ⟨[], [], []⟩) k n e front h' cs) (hcs : okLog cs)
    (hX : ∀ g, RunsAt G T X (front ++ tl n g, h', []) P) : RunsAt G T (seqs l X) (t, h, s0) P := by
  obtain ⟨g, s', L, hr, hL⟩ := goesT_some hG hcs
  have key : ∀ (cs : List Code) (x x' : Lf) (L L' : Lg) (e : Ex), evL T N cs x L = some (e, x', L') → L'.ok → L.ok ∧ (RunsAt G T X x' P → RunsAt G T (seqs cs X) x P) := by
    intro cs
    induction cs with
    | nil =>
      intro x x' L L' e h hL
      simp only [evL] at h
      cases h
      exact ⟨hL, id⟩
    | cons c cs ih =>
      intro x x' L L' e h hL
      simp only [evL] at h
      split at h
      · rename_i x1 L1 h1
        obtain ⟨g1, g3⟩ := ih x1 x' L1 L' e h hL
        obtain ⟨g4, g5⟩ := (evC_ok hT N).1 _ _ _ _ _ _ h1 g1
        refine ⟨g4, fun hX m B a w R hG Q hQ => wp_seq (g5 m B a w R _ fun a' w' hR => ?_)⟩
        obtain ⟨m', _, k2, k3, _⟩ := hR
        exact g3 hX m' B a' w' k2 (fun w'' hb' => hG w'' (k3.trans hb')) Q fun e' y' he' m'' a'' w'' hR' hb' => hQ e' y' he' m'' a'' w'' hR' (k3.trans hb')
      · cases h
  intro m B a w R hW Q hQ
  exact (key l _ _ _ _ _ hr hL).2 (fun m B a w R => hX g m B a w ⟨R.tmps, R.dfr, R.emb, R.wf⟩) m B a w ⟨R.tmps, R.dfr, R.emb, R.wf⟩ hW Q hQ
/-- one operation that calls, by what the call does in this very world -/
theorem wpOp_call {P : Program} {ops : Array Oper} {i : Nat} {o : Oper} (hi : ops[i]? = some o) {f : Nat} {args : Array Operand} {tys : Array TypeId} (hop : o.op = .call ⟨.value (.func f), args, tys⟩) {x : Lf} (hw : wantS ops x.1 x.2.2 o = (true, x.2.2, []))
    (hall : (args.toList.all okX) = true) (hst : ((args.toList.map (ev x.1)).all (lt 0)) = true) {v : Value} (hv : lt 0 v = true) {F : Func} (hF : P.funcs[f]? = some F) (hFn : (F.name == "runtime.NumGoroutine") = false) (hFb : F.body.isSome = true)
    {m : Mp} {B : Nat} {a : Act} {w : World} (R : Rel m B x a w) (hc : Calls P f (args.toList.map (ev x.1)).toArray w fun e w' => e = .returned v ∧ Tidy w w') {Q : Exit → Act → World → Prop} {K : Act → World → Prop}
    (hK : ∀ a' w', Reach m B x.2.1.n w (putL x.1 o.dst v, x.2.1, x.2.2) a' w' → K a' w') : wpOp P ops Q i K a w := by
  have hall' : ∀ y ∈ args.toList, okX y = true := List.all_eq_true.1 hall
  have still : args.map a.eval = (args.toList.map (ev x.1)).toArray := by
    rw [evs_mv R.tmps hall']
    congr 1
    exact (List.map_congr_left fun y hy => mv_still (List.all_eq_true.1 hst y hy)).trans (List.map_id' _)
  have e := wantS_ok (ops := ops) (s := x.2.2) (o := o) R.tmps (by rw [hw]; exact fun x hx => by cases hx)
  rw [hw] at e
  unfold wpOp
  simp only [hi, ← e, if_true]
  refine .inl ?_
  unfold Oper.wp
  rw [execCall hop rfl, callFunc_run hF hFn hFb]
  simp only [Oper.upon]
  rw [still]
  refine hc.mono fun e w' he => ?_
  obtain ⟨rfl, hcl⟩ := he
  obtain ⟨E', hb⟩ := clean_emb R.emb hcl
  have := Reach.put R ⟨Agree.refl m _, E', hb, Nat.le_refl _, lt_mono (Nat.zero_le _) hv⟩ o.dst x.2.2
  rw [mv_still hv] at this
  exact hK _ _ this
/-- a region in text order whose second operation is such a call -/
theorem RunsAt.second {G : World → Prop} {T : Tab} (hT : TabOk T) {N id : Nat} {ops : Array Oper} {o0 o : Oper} {l : List Oper} (hops : ops.toList = o0 :: o :: l) {x x1 : Lf} {L1 : Lg} (h0 : opS T (callBy T (evC T N false)) ops o0 x ⟨[], [], []⟩ = some (x1, L1)) (hL1 : L1.ok)
    {f : Nat} {args : Array Operand} {tys : Array TypeId} (hop : o.op = .call ⟨.value (.func f), args, tys⟩) (hw : wantS ops x1.1 x1.2.2 o = (true, x1.2.2, [])) (hall : (args.toList.all okX) = true) (hst : ((args.toList.map (ev x1.1)).all (lt 0)) = true) {v : Value} (hv : lt 0 v = true)
    {F : Func} (hF : T.P.funcs[f]? = some F) (hFn : (F.name == "runtime.NumGoroutine") = false) (hFb : F.body.isSome = true) (hc : ∀ w, G w → Calls T.P f (args.toList.map (ev x1.1)).toArray w fun e w' => e = .returned v ∧ Tidy w w')
    {k n : Nat} {front : List Value} {h' : Hp} {cs : Log} (hG : GoesT ((evOps T (callBy T (evC T N false)) ops l (putL x1.1 o.dst v, x1.2.1, x1.2.2) ⟨[], [], []⟩).map fun r => (none, r.1, r.2)) k n none front h' cs) (hcs : okLog cs) :
    RunsAt G T (.region id ops false) x fun e y => e = none ∧ (∃ g, y.1 = front ++ tl n g) ∧ y.2.1 = h' := by
  intro m B a w R hW Q hQ
  obtain ⟨g, s', L, hr, hL⟩ := goesT_some hG hcs
  obtain ⟨r, hr1, hr2⟩ := Option.map_eq_some_iff.1 hr
  obtain ⟨y, Ly⟩ := r
  simp only [Prod.mk.injEq, true_and] at hr2
  obtain ⟨rfl, rfl⟩ := hr2
  have i0 : ops[0]? = some o0 := by rw [← Array.getElem?_toList, hops]; rfl
  have i1 : ops[1]? = some o := by rw [← Array.getElem?_toList, hops]; rfl
  have sz : ops.size = l.length + 2 := by rw [← Array.length_toList, hops]; rfl
  have d2 : ops.toList.drop 2 = l := by rw [hops]; rfl
  obtain ⟨_, k0⟩ := opS_ok hT (callBy_ok hT (evC_ok hT N).1) i0 h0 hL1
  obtain ⟨_, k3⟩ := evOps_ok hT (callBy_ok hT (evC_ok hT N).1) l 2 d2 _ _ _ _ hr1 hL
  refine wp_region ?_
  rw [sz, List.range_eq_range', List.range'_succ, List.range'_succ, wpOps_cons]
  refine k0 m B a w R Q _ fun a1 w1 hR1 => ?_
  obtain ⟨m1, _, r1, b1, _⟩ := hR1
  rw [wpOps_cons]
  refine wpOp_call i1 hop hw hall hst hv hF hFn hFb r1 (hc w1 (hW w1 b1)) fun a2 w2 hR2 => ?_
  obtain ⟨m2, _, r2, b2, _⟩ := hR2
  refine k3 m2 B a2 w2 r2 Q fun a3 w3 hR3 => ?_
  obtain ⟨m3, _, r3, b3, _⟩ := hR3
  exact hQ none _ ⟨rfl, ⟨g, rfl⟩, rfl⟩ m3 a3 w3 r3 ((b1.trans b2).trans b3)
theorem calls_of_runsAt {G : World → Prop} {T : Tab} {f : Nat} {F : Func} {c : Code} (hF : T.P.funcs[f]? = some F) (hc : F.body = some c) {vals : List Value} {v : Value} (hvals : (vals.all (lt 0)) = true) (hv : lt 0 v = true)
    (h : RunsAt G T c (vals ++ List.replicate (F.ntmps - vals.length) undef, ⟨0, []⟩, []) fun e y => (e = none ∨ e = some none) ∧ resS T.P F y.1 y.2.1 = some v) (w : World) (hW : ∀ w', Below w.heap.size w w' → G w') :
    Calls T.P f vals.toArray w fun e w' => e = .returned v ∧ Tidy w w' := by
  have E : Emb (fun b => (b, 0)) w.heap.size ⟨0, []⟩ w :=
    Emb.none w
  have hst : ∀ y ∈ vals, lt 0 y = true := List.all_eq_true.1 hvals
  have e0 : vals.map (mv fun b => (b, 0)) = vals := (List.map_congr_left fun y hy => mv_still (hst y hy)).trans (List.map_id' _)
  refine calls_of_wp hF hc ?_
  have R : Rel (fun b => (b, 0)) w.heap.size (vals ++ List.replicate (F.ntmps - vals.length) undef, ⟨0, []⟩, []) { tmps := vals.toArray ++ Array.replicate (F.ntmps - vals.toArray.size) undef, defers := [] } w := by
    refine ⟨?_, rfl, E, ?_⟩
    · simp [mv_undef, e0]
    · intro y hy
      rcases List.mem_append.1 hy with hy | hy
      · exact hst y hy
      · rw [List.eq_of_mem_replicate hy]; simp [undef, lt]
  refine h _ _ _ w R hW _ fun e y he m' a' w' k2 k3 => ?_
  obtain ⟨hex, hres⟩ := he
  obtain ⟨r1, r2⟩ := resS_run k2.emb k2.wf hres
  rw [← k2.tmps, mv_still hv] at r1
  have post : a'.defers = [] ∧ ∃ v', (results F a'.tmps).run T.P w' = .ok v' w' ∧ (Ending.returned v' = .returned v ∧ Tidy w w') :=
    ⟨k2.dfr, _, r1, rfl, k3, fun k h1 h2 => k2.emb.ice k h1 h2⟩
  rcases hex with rfl | rfl <;> exact post
theorem tidy_trans {a b c : World} (h1 : Tidy a b) (h2 : Tidy b c) : Tidy a c := by
  refine ⟨h1.1.trans (h2.1.mono h1.1.size), fun k hk hk' => ?_⟩
  by_cases h : k < b.heap.size
  · rw [h2.1.block k h]; exact h1.2 k hk h
  · exact h2.2 k (by omega) hk'
theorem tidy_alloc (w : World) (cs : Array Value) (e : TypeId) : Tidy w (w.alloc (.cells cs e (0, 0))) := by
  refine ⟨Below.alloc (Below.refl _ _) (Nat.le_refl _) _, fun k hk hk' => ?_⟩
  rw [size_alloc'] at hk'
  have : k = w.heap.size := by omega
  subst this
  exact iced_cells (heap_alloc_at w _)
theorem tidy_setCell {a w : World} (h : Tidy a w) {b : Nat} {v : Value} {t : TypeId} (hb : a.heap.size ≤ b) (hc : w.heap[b]? = some (.cells #[v] t (0, 0))) (u : Value) : Tidy a (w.setCell ⟨b, 0, none⟩ u) := by
  refine ⟨Below.setCell h.1 hb u, fun k hk hk' => ?_⟩
  by_cases hkb : k = b
  · subst hkb
    exact iced_cells (one_setCell hc)
  · rw [Below.heap_setCell w ⟨b, 0, none⟩ u k hkb]
    refine h.2 k hk ?_
    have hs : (w.setCell ⟨b, 0, none⟩ u).heap.size = w.heap.size := by simp [World.setCell]
    omega
end Go.KRun
