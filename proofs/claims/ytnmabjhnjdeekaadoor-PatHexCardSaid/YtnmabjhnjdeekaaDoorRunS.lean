/-
  A RUN THAT THE KERNEL RECKONS, IX: code taken piece by piece, where a loop goes round as often as a letter says: what a piece comes to from a state of the reckoner's, in every world ('Runs'), and the rules: a piece that is reckoned, one behind the other, a block, a loop with an invariant; and a call out of its body.
-/
import Derived.Test.YtnmabjhnjdeekaaDoorRunG
namespace Go.KRun
open Go.RowKit

/-- From state x the code c ends, in one of the ways that 'Post' tells. -/
def Runs (T : Tab) (c : Code) (x : Lf) (Post : Ex → Lf → Prop) : Prop :=
  ∀ m B a w, Rel m B x a w → ∀ Q : Exit → Act → World → Prop, (∀ e y, Post e y → ∀ a' w', Reach m B x.2.1.n w y a' w' → Q (out e) a' w') → c.wp T.P Q a w

theorem Runs.mono {T : Tab} {c : Code} {x : Lf} {P P' : Ex → Lf → Prop} (h : Runs T c x P) (hp : ∀ e y, P e y → P' e y) : Runs T c x P' :=
  fun m B a w R Q hQ => h m B a w R Q fun e y he => hQ e y (hp e y he)

/-- the decisions that are told ahead are no part of the state -/
theorem Runs.script {T : Tab} {c : Code} {t : List Value} {h : Hp} {s s' : List Dec} {P : Ex → Lf → Prop} (hr : Runs T c (t, h, s) P) : Runs T c (t, h, s') P :=
  fun m B a w R Q hQ => hr m B a w ⟨R.tmps, R.dfr, R.emb, R.wf⟩ Q hQ

theorem Runs.ev {T : Tab} (hT : TabOk T) {n : Nat} {c : Code} {x x' : Lf} {e : Ex} {L : Lg} (h : evC T n false c x ⟨[], [], []⟩ = some (e, x', L)) (hL : L.ok) : Runs T c x fun e' y => e' = e ∧ y = x' :=
  fun m B a w R Q hQ => ((evC_ok hT n).1 c x _ e x' L h hL).2 m B a w R Q fun a' w' hR => hQ e x' ⟨rfl, rfl⟩ a' w' hR

theorem Runs.seq {T : Tab} {c1 c2 : Code} {x : Lf} {P1 P : Ex → Lf → Prop} (h1 : Runs T c1 x P1) (h2 : ∀ y, P1 none y → Runs T c2 y P) (h3 : ∀ e y, P1 (some e) y → P (some e) y) : Runs T (.seq c1 c2) x P := by
  intro m B a w R Q hQ
  refine wp_seq (h1 m B a w R _ fun e y he a' w' hR => ?_)
  match e, he with
  | none, he =>
    obtain ⟨m', k1, k2, k3, k4⟩ := hR
    exact h2 y he m' B a' w' k2 Q fun e' y' he' a'' w'' hR' => hQ e' y' he' a'' w'' (Reach.trans k1 k3 k4 hR')
  | some none, he => exact hQ _ _ (h3 none y he) a' w' hR
  | some (some id), he => exact hQ _ _ (h3 (some id) y he) a' w' hR

theorem Runs.block {T : Tab} {c : Code} {id : Nat} {x : Lf} {P1 P : Ex → Lf → Prop} (h1 : Runs T c x P1) (h2 : ∀ y, P1 none y → P none y) (h3 : ∀ y, P1 (some none) y → P (some none) y)
    (h4 : ∀ y, P1 (some (some id)) y → P none y) (h5 : ∀ id' y, id' ≠ id → P1 (some (some id')) y → P (some (some id')) y) : Runs T (.block id c) x P := by
  intro m B a w R Q hQ
  refine wp_block (h1 m B a w R _ fun e y he a' w' hR => ?_)
  match e, he with
  | none, he => exact hQ _ _ (h2 y he) a' w' hR
  | some none, he => exact hQ _ _ (h3 y he) a' w' hR
  | some (some id'), he =>
    simp only [out, Exit.inBlock]
    by_cases hid : id' = id
    · subst hid
      rw [if_pos rfl]
      exact hQ _ _ (h4 y he) a' w' hR
    · rw [if_neg hid]
      exact hQ _ _ (h5 id' y hid he) a' w' hR

/-- a loop: 'Inv n x': at its head in state x, at most n rounds are left -/
theorem Runs.loop {T : Tab} {c : Code} {P : Ex → Lf → Prop} (Inv : Nat → Lf → Prop) (round : ∀ n x, Inv n x → Runs T c x fun e y => match e with | none => ∃ n', n' < n ∧ Inv n' y | some e => P (some e) y) {n : Nat} {x : Lf} (h0 : Inv n x) :
    Runs T (.loop c) x P := by
  have key : ∀ N n x, n < N → Inv n x → ∀ m B a w, Rel m B x a w → ∀ Q : Exit → Act → World → Prop, (∀ e y, P e y → ∀ a' w', Reach m B x.2.1.n w y a' w' → Q (out e) a' w') → Code.rounds T.P c Q N a w := by
    intro N
    induction N with
    | zero => intro n x hn; omega
    | succ N ih =>
      intro n x hn hI m B a w R Q hQ
      rw [rounds_succ]
      refine round n x hI m B a w R _ fun e y he a' w' hR => ?_
      match e, he with
      | none, he =>
        obtain ⟨n', hn', hI'⟩ := he
        obtain ⟨m', k1, k2, k3, k4⟩ := hR
        exact ih n' y (by omega) hI' m' B a' w' k2 Q fun e' y' he' a'' w'' hR' => hQ e' y' he' a'' w'' (Reach.trans k1 k3 k4 hR')
      | some none, he => exact hQ _ _ he a' w' hR
      | some (some id), he => exact hQ _ _ he a' w' hR
  intro m B a w R Q hQ
  exact wp_loop_rounds (n + 1) (key (n + 1) n x (by omega) h0 m B a w R Q hQ)

/-- a call out of its body -/
theorem calls_of_runs {T : Tab} {f : Nat} {F : Func} {c : Code} (hF : T.P.funcs[f]? = some F) (hc : F.body = some c) {vals : List Value} {v : Value} (hvals : (vals.all (lt 0)) = true) (hv : lt 0 v = true)
    (h : Runs T c (vals ++ List.replicate (F.ntmps - vals.length) undef, ⟨0, []⟩, []) fun e y => (e = none ∨ e = some none) ∧ resS T.P F y.1 y.2.1 = some v) (w : World) :
    Calls T.P f vals.toArray w fun e w' => e = .returned v ∧ Tidy w w' := by
  have E : Emb (fun b => (b, 0)) w.heap.size ⟨0, []⟩ w :=
    Emb.none w
  have hst : ∀ y ∈ vals, lt 0 y = true := List.all_eq_true.1 hvals
  have e0 : vals.map (mv fun b => (b, 0)) = vals := (List.map_congr_left fun y hy => mv_still (hst y hy)).trans (List.map_id' _)
  refine calls_of_wp hF hc ?_
  have R : Rel (fun b => (b, 0)) w.heap.size (vals ++ List.replicate (F.ntmps - vals.length) undef, ⟨0, []⟩, []) { tmps := vals.toArray ++ Array.replicate (F.ntmps - vals.toArray.size) undef, defers := [] } w := by
    refine ⟨?_, rfl, E, ?_⟩
    · simp [mv_undef, e0]
    · intro y hy
      rcases List.mem_append.1 hy with hy | hy
      · exact hst y hy
      · rw [List.eq_of_mem_replicate hy]; simp [undef, lt]
  refine h _ _ _ w R _ fun e y he a' w' hR => ?_
  obtain ⟨hex, hres⟩ := he
  obtain ⟨m', k1, k2, k3, k4⟩ := hR
  obtain ⟨r1, r2⟩ := resS_run k2.emb k2.wf hres
  rw [← k2.tmps, mv_still hv] at r1
  have post : a'.defers = [] ∧ ∃ v', (results F a'.tmps).run T.P w' = .ok v' w' ∧ (Ending.returned v' = .returned v ∧ Tidy w w') :=
    ⟨k2.dfr, _, r1, rfl, k3, fun k h1 h2 => k2.emb.ice k h1 h2⟩
  rcases hex with rfl | rfl <;> exact post

/-! ### the pieces of a piece of code -/
def cFst : Code → Code
  | .seq a _ => a
  | c => c
def cSnd : Code → Code
  | .seq _ b => b
  | c => c
def cIn : Code → Code
  | .block _ c => c
  | .loop c => c
  | .scope c => c
  | c => c
def cBody (F : Func) : Code := F.body.getD .skip

/-- pieces one behind the other, ahead of the rest -/
def seqs : List Code → Code → Code
  | [], X => X
  | c :: cs, X => .seq c (seqs cs X)
def evL (T : Tab) (n : Nat) : List Code → Lf → Lg → Option (Ex × Lf × Lg)
  | [], x, L => some (none, x, L)
  | c :: cs, x, L =>
    match evC T n false c x L with
    | some (none, x', L') => evL T n cs x' L'
    | _ => none
theorem evL_ok {T : Tab} (hT : TabOk T) {n : Nat} {X : Code} {P : Ex → Lf → Prop} : ∀ (cs : List Code) (x x' : Lf) (L L' : Lg) (e : Ex), evL T n cs x L = some (e, x', L') → L'.ok → L.ok ∧ e = none ∧ (Runs T X x' P → Runs T (seqs cs X) x P)
  | [], x, x', L, L', e, h, hL => by
    simp only [evL] at h
    cases h
    exact ⟨hL, rfl, id⟩
  | c :: cs, x, x', L, L', e, h, hL => by
    simp only [evL] at h
    split at h
    · rename_i x1 L1 h1
      obtain ⟨g1, g2, g3⟩ := evL_ok hT cs x1 x' L1 L' e h hL
      obtain ⟨g4, g5⟩ := (evC_ok hT n).1 _ _ _ _ _ _ h1 g1
      refine ⟨g4, g2, fun hX m B a w R Q hQ => wp_seq (g5 m B a w R _ fun a' w' hR => ?_)⟩
      obtain ⟨m', k1, k2, k3, k4⟩ := hR
      exact g3 hX m' B a' w' k2 Q fun e' y' he' a'' w'' hR' => hQ e' y' he' a'' w'' (Reach.trans k1 k3 k4 hR')
    · cases h

/-- What is to be reckoned of a piece of code: how it ends, the temporaries and the memory behind it, what was decided. -/
def Goes (r : Option (Ex × Lf × Lg)) (e : Ex) (t : List Value) (h : Hp) (cs : Log) : Prop :=
  r.map (fun r => r.1) = some e ∧ r.map (fun r => r.2.1.1) = some t ∧ r.map (fun r => r.2.1.2.1) = some h ∧ r.map (fun r => r.2.2.cs) = some cs ∧
    r.map (fun r => r.2.2.es.map Prod.fst) = r.map (fun r => r.2.2.es.map Prod.snd) ∧ r.map (fun r => r.2.2.bs.map Prod.fst) = r.map (fun r => r.2.2.bs.map Prod.snd)
theorem goes_some {r : Option (Ex × Lf × Lg)} {e : Ex} {t : List Value} {h : Hp} {cs : Log} (hG : Goes r e t h cs) (hcs : okLog cs) : ∃ s L, r = some (e, (t, h, s), L) ∧ L.ok := by
  obtain ⟨h1, h2, h3, h4, h5, h6⟩ := hG
  cases r with
  | none => cases h1
  | some r =>
    simp only [Option.map_some, Option.some.injEq] at h1 h2 h3 h4 h5 h6
    obtain ⟨e', ⟨t', h', s'⟩, L⟩ := r
    simp only at h1 h2 h3 h4 h5 h6
    subst h1 h2 h3
    exact ⟨s', L, rfl, by rw [h4]; exact hcs, all_eq _ h5, all_eq _ h6⟩
theorem goes_runs {T : Tab} (hT : TabOk T) {n : Nat} {c : Code} {t t' : List Value} {h h' : Hp} {s s0 : List Dec} {e : Ex} {cs : Log} (hG : Goes (evC T n false c (t, h, s) ⟨[], [], []⟩) e t' h' cs) (hcs : okLog cs) : Runs T c (t, h, s0) fun e' y => e' = e ∧ y.1 = t' ∧ y.2.1 = h' := by
  obtain ⟨s', L, hr, hL⟩ := goes_some hG hcs
  refine Runs.script ((Runs.ev hT hr hL).mono fun e2 y he => ?_)
  obtain ⟨rfl, rfl⟩ := he
  exact ⟨rfl, rfl, rfl⟩
theorem goes_list {T : Tab} (hT : TabOk T) {n : Nat} {l : List Code} {X : Code} {t t' : List Value} {h h' : Hp} {s s0 : List Dec} {e : Ex} {cs : Log} {P : Ex → Lf → Prop} (hG : Goes (evL T n l (t, h, s) ⟨[], [], []⟩) e t' h' cs) (hcs : okLog cs)
    (hX : Runs T X (t', h', []) P) : Runs T (seqs l X) (t, h, s0) P := by
  obtain ⟨s', L, hr, hL⟩ := goes_some hG hcs
  obtain ⟨_, _, h3⟩ := evL_ok (X := X) (P := P) hT l _ _ _ _ _ hr hL
  exact Runs.script (h3 (Runs.script hX))
end Go.KRun
