/-
  A RUN THAT THE KERNEL RECKONS, XI: code taken piece by piece, where blocks that are no more reached are let go behind a round, and their numbers given anew.
-/
import Derived.Test.YtnmabjhnjdeekaaDoorRunT
namespace Go.KRun
open Go.RowKit

def RunsW (T : Tab) (c : Code) (x : Lf) (Post : Ex → Lf → Prop) : Prop :=
  ∀ m B a w, Rel m B x a w → ∀ Q : Exit → Act → World → Prop, (∀ e y, Post e y → ∀ m' a' w', Rel m' B y a' w' → Below B w w' → Q (out e) a' w') → c.wp T.P Q a w
theorem Runs.w {T : Tab} {c : Code} {x : Lf} {P : Ex → Lf → Prop} (h : Runs T c x P) : RunsW T c x P := fun m B a w R Q hQ => h m B a w R Q fun e y he a' w' hR => by
  obtain ⟨m', _, k2, k3, _⟩ := hR
  exact hQ e y he m' a' w' k2 k3
/-- the state behind it told otherwise -/
theorem RunsW.post {T : Tab} {c : Code} {x : Lf} {P P' : Ex → Lf → Prop} (h : RunsW T c x P) (hp : ∀ e y, P e y → ∃ y', P' e y' ∧ ∀ m B a w, Rel m B y a w → ∃ m', Rel m' B y' a w) : RunsW T c x P' :=
  fun m B a w R Q hQ => h m B a w R Q fun e y he m' a' w' hR hb => by
    obtain ⟨y', h1, h2⟩ := hp e y he
    obtain ⟨m2, h3⟩ := h2 m' B a' w' hR
    exact hQ e y' h1 m2 a' w' h3 hb
theorem RunsW.mono {T : Tab} {c : Code} {x : Lf} {P P' : Ex → Lf → Prop} (h : RunsW T c x P) (hp : ∀ e y, P e y → P' e y) : RunsW T c x P' := h.post fun e y he => ⟨y, hp e y he, fun m _ _ _ R => ⟨m, R⟩⟩
theorem RunsW.seq {T : Tab} {c1 c2 : Code} {x : Lf} {P1 P : Ex → Lf → Prop} (h1 : RunsW T c1 x P1) (h2 : ∀ y, P1 none y → RunsW T c2 y P) (h3 : ∀ e y, P1 (some e) y → P (some e) y) : RunsW T (.seq c1 c2) x P := by
  intro m B a w R Q hQ
  refine wp_seq (h1 m B a w R _ fun e y he m' a' w' hR hb => ?_)
  match e, he with
  | none, he => exact h2 y he m' B a' w' hR Q fun e' y' he' m'' a'' w'' hR' hb' => hQ e' y' he' m'' a'' w'' hR' (hb.trans hb')
  | some none, he => exact hQ _ _ (h3 none y he) m' a' w' hR hb
  | some (some id), he => exact hQ _ _ (h3 (some id) y he) m' a' w' hR hb
theorem RunsW.block {T : Tab} {c : Code} {id : Nat} {x : Lf} {P1 P : Ex → Lf → Prop} (h1 : RunsW T c x P1) (h2 : ∀ y, P1 none y → P none y) (h3 : ∀ y, P1 (some none) y → P (some none) y)
    (h4 : ∀ y, P1 (some (some id)) y → P none y) (h5 : ∀ id' y, id' ≠ id → P1 (some (some id')) y → P (some (some id')) y) : RunsW T (.block id c) x P := by
  intro m B a w R Q hQ
  refine wp_block (h1 m B a w R _ fun e y he m' a' w' hR hb => ?_)
  match e, he with
  | none, he => exact hQ _ _ (h2 y he) m' a' w' hR hb
  | some none, he => exact hQ _ _ (h3 y he) m' a' w' hR hb
  | some (some id'), he =>
    simp only [out, Exit.inBlock]
    by_cases hid : id' = id
    · subst hid
      rw [if_pos rfl]
      exact hQ _ _ (h4 y he) m' a' w' hR hb
    · rw [if_neg hid]
      exact hQ _ _ (h5 id' y hid he) m' a' w' hR hb
theorem RunsW.loop {T : Tab} {c : Code} {P : Ex → Lf → Prop} (Inv : Nat → Lf → Prop) (round : ∀ n x, Inv n x → RunsW T c x fun e y => match e with | none => ∃ n', n' < n ∧ Inv n' y | some e => P (some e) y) {n : Nat} {x : Lf} (h0 : Inv n x) :
    RunsW T (.loop c) x P := by
  have key : ∀ N n x, n < N → Inv n x → ∀ m B a w, Rel m B x a w → ∀ Q : Exit → Act → World → Prop, (∀ e y, P e y → ∀ m' a' w', Rel m' B y a' w' → Below B w w' → Q (out e) a' w') → Code.rounds T.P c Q N a w := by
    intro N
    induction N with
    | zero => intro n x hn; omega
    | succ N ih =>
      intro n x hn hI m B a w R Q hQ
      rw [rounds_succ]
      refine round n x hI m B a w R _ fun e y he m' a' w' hR hb => ?_
      match e, he with
      | none, he =>
        obtain ⟨n', hn', hI'⟩ := he
        exact ih n' y (by omega) hI' m' B a' w' hR Q fun e' y' he' m'' a'' w'' hR' hb' => hQ e' y' he' m'' a'' w'' hR' (hb.trans hb')
      | some none, he => exact hQ _ _ he m' a' w' hR hb
      | some (some id), he => exact hQ _ _ he m' a' w' hR hb
  intro m B a w R Q hQ
  exact wp_loop_rounds (n + 1) (key (n + 1) n x (by omega) h0 m B a w R Q hQ)
theorem calls_of_runsW {T : Tab} {f : Nat} {F : Func} {c : Code} (hF : T.P.funcs[f]? = some F) (hc : F.body = some c) {vals : List Value} {v : Value} (hvals : (vals.all (lt 0)) = true) (hv : lt 0 v = true)
    (h : RunsW T c (vals ++ List.replicate (F.ntmps - vals.length) undef, ⟨0, []⟩, []) fun e y => (e = none ∨ e = some none) ∧ resS T.P F y.1 y.2.1 = some v) (w : World) :
    Calls T.P f vals.toArray w fun e w' => e = .returned v ∧ Tidy w w' := by
  have E : Emb (fun b => (b, 0)) w.heap.size ⟨0, []⟩ w :=
    Emb.none w
  have hst : ∀ y ∈ vals, lt 0 y = true := List.all_eq_true.1 hvals
  have e0 : vals.map (mv fun b => (b, 0)) = vals := (List.map_congr_left fun y hy => mv_still (hst y hy)).trans (List.map_id' _)
  refine calls_of_wp hF hc ?_
  have R : Rel (fun b => (b, 0)) w.heap.size (vals ++ List.replicate (F.ntmps - vals.length) undef, ⟨0, []⟩, []) { tmps := vals.toArray ++ Array.replicate (F.ntmps - vals.toArray.size) undef, defers := [] } w := by
    refine ⟨?_, rfl, E, ?_⟩
    · simp [mv_undef, e0]
    · intro y hy
      rcases List.mem_append.1 hy with hy | hy
      · exact hst y hy
      · rw [List.eq_of_mem_replicate hy]; simp [undef, lt]
  refine h _ _ _ w R _ fun e y he m' a' w' k2 k3 => ?_
  obtain ⟨hex, hres⟩ := he
  obtain ⟨r1, r2⟩ := resS_run k2.emb k2.wf hres
  rw [← k2.tmps, mv_still hv] at r1
  have post : a'.defers = [] ∧ ∃ v', (results F a'.tmps).run T.P w' = .ok v' w' ∧ (Ending.returned v' = .returned v ∧ Tidy w w') :=
    ⟨k2.dfr, _, r1, rfl, k3, fun k h1 h2 => k2.emb.ice k h1 h2⟩
  rcases hex with rfl | rfl <;> exact post
theorem RunsW.script {T : Tab} {c : Code} {t : List Value} {h : Hp} {s s' : List Dec} {P : Ex → Lf → Prop} (hr : RunsW T c (t, h, s) P) : RunsW T c (t, h, s') P :=
  fun m B a w R Q hQ => hr m B a w ⟨R.tmps, R.dfr, R.emb, R.wf⟩ Q hQ
theorem goesT_listW {T : Tab} (hT : TabOk T) {N : Nat} {l : List Code} {X : Code} {t : List Value} {h h' : Hp} {s s0 : List Dec} {k n : Nat} {e : Ex} {front : List Value} {cs : Log} {P : Ex → Lf → Prop} (hG : GoesT (evL T N l (t, h, s) ⟨[], [], []⟩) k n e front h' cs) (hcs : okLog cs)
    (hX : ∀ g, RunsW T X (front ++ tl n g, h', []) P) : RunsW T (seqs l X) (t, h, s0) P := by
  obtain ⟨g, s', L, hr, hL⟩ := goesT_some hG hcs
  have key : ∀ (cs : List Code) (x x' : Lf) (L L' : Lg) (e : Ex), evL T N cs x L = some (e, x', L') → L'.ok → L.ok ∧ (RunsW T X x' P → RunsW T (seqs cs X) x P) := by
    intro cs
    induction cs with
    | nil =>
      intro x x' L L' e h hL
      simp only [evL] at h
      cases h
      exact ⟨hL, id⟩
    | cons c cs ih =>
      intro x x' L L' e h hL
      simp only [evL] at h
      split at h
      · rename_i x1 L1 h1
        obtain ⟨g1, g3⟩ := ih x1 x' L1 L' e h hL
        obtain ⟨g4, g5⟩ := (evC_ok hT N).1 _ _ _ _ _ _ h1 g1
        refine ⟨g4, fun hX m B a w R Q hQ => wp_seq (g5 m B a w R _ fun a' w' hR => ?_)⟩
        obtain ⟨m', _, k2, k3, _⟩ := hR
        exact g3 hX m' B a' w' k2 Q fun e' y' he' m'' a'' w'' hR' hb' => hQ e' y' he' m'' a'' w'' hR' (k3.trans hb')
      · cases h
  have r := (key l _ _ _ _ _ hr hL).2 (RunsW.script (hX g))
  exact RunsW.script r
/-- the newest block takes the place of the one below it, which is let go -/
theorem slide {m : Mp} {B : Nat} {t : List Value} {k : Nat} {x y : List Value × TypeId} {l : List (List Value × TypeId)} {s : List Dec} {a : Act} {w : World} (R : Rel m B (t, ⟨k + 2, x :: y :: l⟩, s) a w) (hc : (⟨k + 2, x :: y :: l⟩ : Hp).calm = true)
    (ht : ∀ v ∈ t, lt (k + 1) (rn (swp k (k + 1)) v) = true) : ∃ m', Rel m' B (t.map (rn (swp k (k + 1))), ⟨k + 1, x :: l⟩, s) a w := by
  obtain ⟨r1, _⟩ := swapLf_rel R (i := k) (j := k + 1) (by omega) (by show k + 1 < k + 2; omega) hc
  have e1 : (⟨k + 2, x :: y :: l⟩ : Hp).blk? k = some y := by
    unfold Hp.blk?
    rw [if_pos (blt_iff.2 (by show k < k + 2; omega))]
    show (x :: y :: l)[k + 2 - 1 - k]? = some y
    rw [show k + 2 - 1 - k = 1 from by omega]
    rfl
  have e2 : (⟨k + 2, x :: y :: l⟩ : Hp).blk? (k + 1) = some x := by
    unfold Hp.blk?
    rw [if_pos (blt_iff.2 (by show k + 1 < k + 2; omega))]
    show (x :: y :: l)[k + 2 - 1 - (k + 1)]? = some x
    rw [show k + 2 - 1 - (k + 1) = 0 from by omega]
    rfl
  have e3 : swapLf k (k + 1) (t, ⟨k + 2, x :: y :: l⟩, s) = (t.map (rn (swp k (k + 1))), ⟨k + 2, y :: x :: l⟩, s) := by
    unfold swapLf
    simp only [e1, e2]
    unfold Hp.put
    simp only
    rw [show k + 2 - 1 - k = 1 from by omega, show k + 2 - 1 - (k + 1) = 0 from by omega]
    rfl
  rw [e3] at r1
  have e4 : (⟨k + 2, y :: x :: l⟩ : Hp).cut (k + 1) = ⟨k + 1, x :: l⟩ := by
    unfold Hp.cut
    simp only
    rw [show k + 2 - (k + 1) = 1 from by omega]
    rfl
  have tg : ((⟨k + 2, y :: x :: l⟩ : Hp).cut (k + 1)).tight = true := by
    rw [e4]
    unfold Hp.tight Hp.calm at *
    simp only [List.all_eq_true] at *
    intro b hb v hv
    refine lt1_mono (Nat.zero_le _) (hc b ?_ v hv)
    rcases List.mem_cons.1 hb with rfl | hb
    · exact List.mem_cons_self
    · exact List.mem_cons_of_mem _ (List.mem_cons_of_mem _ hb)
  have E := Emb.cut (n := k + 1) r1.emb (Agree.refl _ _) (by show k + 1 ≤ k + 2; omega) tg
  simp only at E
  rw [e4] at E
  refine ⟨_, r1.tmps, r1.dfr, E, fun v hv => ?_⟩
  obtain ⟨u, hu, rfl⟩ := List.mem_map.1 hv
  exact ht u hu
end Go.KRun
