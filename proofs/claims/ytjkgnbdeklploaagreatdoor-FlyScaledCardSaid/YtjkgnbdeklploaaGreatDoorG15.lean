/-
  RunT, RunU, RunV, RunW, Hcs, ConN1, RunY, ConV1
-/
import Derived.Test.YtjkgnbdeklploaaGreatDoorG14
import Derived.OneCell
namespace Go.KRun
open Go.RowKit
/-- temporaries of which nothing is known but how many they are -/
def tl (n : Nat) (g : Nat → Value) : List Value := (List.range n).map g
theorem tl_of {J : List Value} {n : Nat} (h : J.length = n) : ∃ g, J = tl n g := by
  refine ⟨fun i => J.getD i undef, ?_⟩
  unfold tl
  refine List.ext_getElem (by simp [h]) fun i h1 h2 => ?_
  simp [h1]
/-- What is to be reckoned of a piece of code: how it ends, the first k temporaries and how many more there are, the memory, what was decided. -/
def GoesT (r : Option (Ex × Lf × Lg)) (k n : Nat) (e : Ex) (front : List Value) (h : Hp) (cs : Log) : Prop :=
  r.map (fun r => (r.1, r.2.1.1.take k, (r.2.1.1.drop k).length, r.2.1.2.1, r.2.2.cs)) = some (e, front, n, h, cs) ∧
    r.map (fun r => r.2.2.es.map Prod.fst) = r.map (fun r => r.2.2.es.map Prod.snd) ∧ r.map (fun r => r.2.2.bs.map Prod.fst) = r.map (fun r => r.2.2.bs.map Prod.snd)
/-- the same, where no order is drawn -/
def GoesE (r : Option (Ex × Lf × Lg)) (k n : Nat) (e : Ex) (front : List Value) (h : Hp) (cs : Log) : Prop :=
  r.map (fun r => (r.1, r.2.1.1.take k, (r.2.1.1.drop k).length, r.2.1.2.1, r.2.2.cs, r.2.2.es, r.2.2.bs)) = some (e, front, n, h, cs, [], [])
theorem GoesE.t {r : Option (Ex × Lf × Lg)} {k n : Nat} {e : Ex} {front : List Value} {h : Hp} {cs : Log} (hG : GoesE r k n e front h cs) : GoesT r k n e front h cs := by
  unfold GoesE at hG
  cases r with
  | none => cases hG
  | some r =>
    simp only [Option.map_some, Option.some.injEq, Prod.mk.injEq] at hG
    obtain ⟨h1, h2, h3, h4, h5, h6, h7⟩ := hG
    refine ⟨?_, ?_, ?_⟩
    · rw [Option.map_some, h1, h2, h3, h4, h5]
    · simp [h6]
    · simp [h7]
theorem goesT_some {r : Option (Ex × Lf × Lg)} {k n : Nat} {e : Ex} {front : List Value} {h : Hp} {cs : Log} (hG : GoesT r k n e front h cs) (hcs : okLog cs) : ∃ g s L, r = some (e, (front ++ tl n g, h, s), L) ∧ L.ok := by
  obtain ⟨h1, h5, h6⟩ := hG
  cases r with
  | none => cases h1
  | some r =>
    simp only [Option.map_some, Option.some.injEq, Prod.mk.injEq] at h1 h5 h6
    obtain ⟨e', ⟨t', h', s'⟩, L⟩ := r
    simp only at h1 h5 h6
    obtain ⟨h1, h2, h3, h4, h7⟩ := h1
    subst h1 h4
    obtain ⟨g, hg⟩ := tl_of h3
    refine ⟨g, s', L, ?_, by rw [h7]; exact hcs, all_eq _ h5, all_eq _ h6⟩
    rw [← h2, ← hg, List.take_append_drop]
theorem goesT_runs {T : Tab} (hT : TabOk T) {N : Nat} {c : Code} {t : List Value} {h h' : Hp} {s s0 : List Dec} {k n : Nat} {e : Ex} {front : List Value} {cs : Log} (hG : GoesT (evC T N false c (t, h, s) ⟨[], [], []⟩) k n e front h' cs) (hcs : okLog cs) :
    Runs T c (t, h, s0) fun e' y => e' = e ∧ (∃ g, y.1 = front ++ tl n g) ∧ y.2.1 = h' := by
  obtain ⟨g, s', L, hr, hL⟩ := goesT_some hG hcs
  refine Runs.script ((Runs.ev hT hr hL).mono fun e2 y he => ?_)
  obtain ⟨rfl, rfl⟩ := he
  exact ⟨rfl, ⟨g, rfl⟩, rfl⟩
theorem goesT_list {T : Tab} (hT : TabOk T) {N : Nat} {l : List Code} {X : Code} {t : List Value} {h h' : Hp} {s s0 : List Dec} {k n : Nat} {e : Ex} {front : List Value} {cs : Log} {P : Ex → Lf → Prop} (hG : GoesT (evL T N l (t, h, s) ⟨[], [], []⟩) k n e front h' cs) (hcs : okLog cs)
    (hX : ∀ g, Runs T X (front ++ tl n g, h', []) P) : Runs T (seqs l X) (t, h, s0) P := by
  obtain ⟨g, s', L, hr, hL⟩ := goesT_some hG hcs
  obtain ⟨_, _, h3⟩ := evL_ok (X := X) (P := P) hT l _ _ _ _ _ hr hL
  exact Runs.script (h3 (Runs.script (hX g)))
/-- a 'for': what stands ahead of it, and its rounds -/
theorem Runs.forLoop {T : Tab} {c : Code} {id : Nat} {x : Lf} {P : Lf → Prop} {R : Lf → Prop} (Inv : Nat → Lf → Prop)
    (round : ∀ n x, Inv n x → Runs T c x fun e y => match e with | none => ∃ n', n' < n ∧ Inv n' y | some none => R y | some (some id') => id' = id ∧ P y) {n : Nat} (h0 : Inv n x) :
    Runs T (.block id (.loop c)) x fun e y => match e with | none => P y | some none => R y | some (some _) => False := by
  refine Runs.block (P1 := fun e y => match e with | none => False | some none => R y | some (some id') => id' = id ∧ P y) ?_ (fun y he => he.elim) (fun y he => he) (fun y he => he.2) (fun id' y hid he => absurd he.1 hid)
  refine Runs.loop Inv (fun n x hI => (round n x hI).mono fun e y he => ?_) h0
  match e, he with
  | none, he => exact he
  | some none, he => exact he
  | some (some id'), he => exact he
def RunsW (T : Tab) (c : Code) (x : Lf) (Post : Ex → Lf → Prop) : Prop :=
  ∀ m B a w, Rel m B x a w → ∀ Q : Exit → Act → World → Prop, (∀ e y, Post e y → ∀ m' a' w', Rel m' B y a' w' → Below B w w' → Q (out e) a' w') → c.wp T.P Q a w
theorem Runs.w {T : Tab} {c : Code} {x : Lf} {P : Ex → Lf → Prop} (h : Runs T c x P) : RunsW T c x P := fun m B a w R Q hQ => h m B a w R Q fun e y he a' w' hR => by
  obtain ⟨m', _, k2, k3, _⟩ := hR
  exact hQ e y he m' a' w' k2 k3
/-- the state behind it told otherwise -/
theorem RunsW.post {T : Tab} {c : Code} {x : Lf} {P P' : Ex → Lf → Prop} (h : RunsW T c x P) (hp : ∀ e y, P e y → ∃ y', P' e y' ∧ ∀ m B a w, Rel m B y a w → ∃ m', Rel m' B y' a w) : RunsW T c x P' :=
  fun m B a w R Q hQ => h m B a w R Q fun e y he m' a' w' hR hb => by
    obtain ⟨y', h1, h2⟩ := hp e y he
    obtain ⟨m2, h3⟩ := h2 m' B a' w' hR
    exact hQ e y' h1 m2 a' w' h3 hb
theorem RunsW.mono {T : Tab} {c : Code} {x : Lf} {P P' : Ex → Lf → Prop} (h : RunsW T c x P) (hp : ∀ e y, P e y → P' e y) : RunsW T c x P' := h.post fun e y he => ⟨y, hp e y he, fun m _ _ _ R => ⟨m, R⟩⟩
theorem RunsW.seq {T : Tab} {c1 c2 : Code} {x : Lf} {P1 P : Ex → Lf → Prop} (h1 : RunsW T c1 x P1) (h2 : ∀ y, P1 none y → RunsW T c2 y P) (h3 : ∀ e y, P1 (some e) y → P (some e) y) : RunsW T (.seq c1 c2) x P := by
  intro m B a w R Q hQ
  refine wp_seq (h1 m B a w R _ fun e y he m' a' w' hR hb => ?_)
  match e, he with
  | none, he => exact h2 y he m' B a' w' hR Q fun e' y' he' m'' a'' w'' hR' hb' => hQ e' y' he' m'' a'' w'' hR' (hb.trans hb')
  | some none, he => exact hQ _ _ (h3 none y he) m' a' w' hR hb
  | some (some id), he => exact hQ _ _ (h3 (some id) y he) m' a' w' hR hb
theorem RunsW.block {T : Tab} {c : Code} {id : Nat} {x : Lf} {P1 P : Ex → Lf → Prop} (h1 : RunsW T c x P1) (h2 : ∀ y, P1 none y → P none y) (h3 : ∀ y, P1 (some none) y → P (some none) y)
    (h4 : ∀ y, P1 (some (some id)) y → P none y) (h5 : ∀ id' y, id' ≠ id → P1 (some (some id')) y → P (some (some id')) y) : RunsW T (.block id c) x P := by
  intro m B a w R Q hQ
  refine wp_block (h1 m B a w R _ fun e y he m' a' w' hR hb => ?_)
  match e, he with
  | none, he => exact hQ _ _ (h2 y he) m' a' w' hR hb
  | some none, he => exact hQ _ _ (h3 y he) m' a' w' hR hb
  | some (some id'), he =>
    simp only [out, Exit.inBlock]
    by_cases hid : id' = id
    · subst hid
      rw [if_pos rfl]
      exact hQ _ _ (h4 y he) m' a' w' hR hb
    · rw [if_neg hid]
      exact hQ _ _ (h5 id' y hid he) m' a' w' hR hb
theorem RunsW.loop {T : Tab} {c : Code} {P : Ex → Lf → Prop} (Inv : Nat → Lf → Prop) (round : ∀ n x, Inv n x → RunsW T c x fun e y => match e with | none => ∃ n', n' < n ∧ Inv n' y | some e => P (some e) y) {n : Nat} {x : Lf} (h0 : Inv n x) :
    RunsW T (.loop c) x P := by
  have key : ∀ N n x, n < N → Inv n x → ∀ m B a w, Rel m B x a w → ∀ Q : Exit → Act → World → Prop, (∀ e y, P e y → ∀ m' a' w', Rel m' B y a' w' → Below B w w' → Q (out e) a' w') → Code.rounds T.P c Q N a w := by
    intro N
    induction N with
    | zero => intro n x hn; omega
    | succ N ih =>
      intro n x hn hI m B a w R Q hQ
      rw [rounds_succ]
      refine round n x hI m B a w R _ fun e y he m' a' w' hR hb => ?_
      match e, he with
      | none, he =>
        obtain ⟨n', hn', hI'⟩ := he
        exact ih n' y (by omega) hI' m' B a' w' hR Q fun e' y' he' m'' a'' w'' hR' hb' => hQ e' y' he' m'' a'' w'' hR' (hb.trans hb')
      | some none, he => exact hQ _ _ he m' a' w' hR hb
      | some (some id), he => exact hQ _ _ he m' a' w' hR hb
  intro m B a w R Q hQ
  exact wp_loop_rounds (n + 1) (key (n + 1) n x (by omega) h0 m B a w R Q hQ)
theorem RunsW.script {T : Tab} {c : Code} {t : List Value} {h : Hp} {s s' : List Dec} {P : Ex → Lf → Prop} (hr : RunsW T c (t, h, s) P) : RunsW T c (t, h, s') P :=
  fun m B a w R Q hQ => hr m B a w ⟨R.tmps, R.dfr, R.emb, R.wf⟩ Q hQ
theorem goesT_listW {T : Tab} (hT : TabOk T) {N : Nat} {l : List Code} {X : Code} {t : List Value} {h h' : Hp} {s s0 : List Dec} {k n : Nat} {e : Ex} {front : List Value} {cs : Log} {P : Ex → Lf → Prop} (hG : GoesT (evL T N l (t, h, s) ⟨[], [], []⟩) k n e front h' cs) (hcs : okLog cs)
    (hX : ∀ g, RunsW T X (front ++ tl n g, h', []) P) : RunsW T (seqs l X) (t, h, s0) P := by
  obtain ⟨g, s', L, hr, hL⟩ := goesT_some hG hcs
  have key : ∀ (cs : List Code) (x x' : Lf) (L L' : Lg) (e : Ex), evL T N cs x L = some (e, x', L') → L'.ok → L.ok ∧ (RunsW T X x' P → RunsW T (seqs cs X) x P) := by
    intro cs
    induction cs with
    | nil =>
      intro x x' L L' e h hL
      simp only [evL] at h
      cases h
      exact ⟨hL, id⟩
    | cons c cs ih =>
      intro x x' L L' e h hL
      simp only [evL] at h
      split at h
      · rename_i x1 L1 h1
        obtain ⟨g1, g3⟩ := ih x1 x' L1 L' e h hL
        obtain ⟨g4, g5⟩ := (evC_ok hT N).1 _ _ _ _ _ _ h1 g1
        refine ⟨g4, fun hX m B a w R Q hQ => wp_seq (g5 m B a w R _ fun a' w' hR => ?_)⟩
        obtain ⟨m', _, k2, k3, _⟩ := hR
        exact g3 hX m' B a' w' k2 Q fun e' y' he' m'' a'' w'' hR' hb' => hQ e' y' he' m'' a'' w'' hR' (k3.trans hb')
      · cases h
  have r := (key l _ _ _ _ _ hr hL).2 (RunsW.script (hX g))
  exact RunsW.script r
theorem tidy_trans {a b c : World} (h1 : Tidy a b) (h2 : Tidy b c) : Tidy a c := by
  refine ⟨h1.1.trans (h2.1.mono h1.1.size), fun k hk hk' => ?_⟩
  by_cases h : k < b.heap.size
  · rw [h2.1.block k h]; exact h1.2 k hk h
  · exact h2.2 k (by omega) hk'
theorem tidy_alloc (w : World) (cs : Array Value) (e : TypeId) : Tidy w (w.alloc (.cells cs e (0, 0))) := by
  refine ⟨Below.alloc (Below.refl _ _) (Nat.le_refl _) _, fun k hk hk' => ?_⟩
  rw [size_alloc'] at hk'
  have : k = w.heap.size := by omega
  subst this
  exact iced_cells (heap_alloc_at w _)
theorem tidy_setCell {a w : World} (h : Tidy a w) {b : Nat} {v : Value} {t : TypeId} (hb : a.heap.size ≤ b) (hc : w.heap[b]? = some (.cells #[v] t (0, 0))) (u : Value) : Tidy a (w.setCell ⟨b, 0, none⟩ u) := by
  refine ⟨Below.setCell h.1 hb u, fun k hk hk' => ?_⟩
  by_cases hkb : k = b
  · subst hkb
    exact iced_cells (one_setCell hc)
  · rw [Below.heap_setCell w ⟨b, 0, none⟩ u k hkb]
    refine h.2 k hk ?_
    have hs : (w.setCell ⟨b, 0, none⟩ u).heap.size = w.heap.size := by simp [World.setCell]
    omega
/-! ### values that point into some blocks alone -/
def oc1 (bs : List Nat) : Value → Bool
  | .pointer (some a) => bs.contains a.block
  | .slice (some a) _ _ => bs.contains a.block
  | .map (some b) => bs.contains b
  | .iface t _ => !(Nat.beq t dead)
  | _ => true
def oc2 (bs : List Nat) : Value → Bool
  | .agg cs => cs.toList.all (oc1 bs)
  | v => oc1 bs v
def oc (bs : List Nat) : Value → Bool
  | .tuple vs => vs.toList.all (oc2 bs)
  | v => oc2 bs v
theorem mv1_on {m m' : Mp} {bs : List Nat} (h : ∀ b ∈ bs, m b = m' b) {v : Value} (hv : oc1 bs v = true) : mv1 m v = mv1 m' v := by
  unfold mv1
  split
  · simp only [oc1, List.contains_iff_mem] at hv; simp [mvA, h _ hv]
  · simp only [oc1, List.contains_iff_mem] at hv; simp [mvA, h _ hv]
  · simp only [oc1, List.contains_iff_mem] at hv; simp [h _ hv]
  · rfl
  · rfl
theorem mv2_on {m m' : Mp} {bs : List Nat} (h : ∀ b ∈ bs, m b = m' b) {v : Value} (hv : oc2 bs v = true) : mv2 m v = mv2 m' v := by
  unfold mv2
  split
  · rename_i cs
    simp only [oc2, List.all_eq_true] at hv
    congr 1
    exact Array.map_congr_left fun x hx => mv1_on h (hv x (by simpa using hx))
  · rename_i hna
    refine mv1_on h ?_
    unfold oc2 at hv
    split at hv
    · rename_i cs; exact absurd rfl (hna cs)
    · exact hv
theorem mv_on {m m' : Mp} {bs : List Nat} (h : ∀ b ∈ bs, m b = m' b) {v : Value} (hv : oc bs v = true) : mv m v = mv m' v := by
  unfold mv
  split
  · rename_i vs
    simp only [oc, List.all_eq_true] at hv
    congr 1
    exact Array.map_congr_left fun x hx => mv2_on h (hv x (by simpa using hx))
  · rename_i hna
    refine mv2_on h ?_
    unfold oc at hv
    split at hv
    · rename_i cs; exact absurd rfl (hna cs)
    · exact hv
theorem oc_ren {bs : List Nat} {f : Nat → Nat} {n : Nat} (hf : ∀ b ∈ bs, f b < n) {v : Value} (hv : oc bs v = true) : lt n (rn f v) = true := by
  have h1 : ∀ v, oc1 bs v = true → lt1 n (rn1 f v) = true := fun v h => by
    cases v with
    | pointer a =>
      cases a with
      | none => rfl
      | some a => simp only [oc1, List.contains_iff_mem] at h; exact blt_iff.2 (hf _ h)
    | map a =>
      cases a with
      | none => rfl
      | some a => simp only [oc1, List.contains_iff_mem] at h; exact blt_iff.2 (hf _ h)
    | slice a l c =>
      cases a with
      | none => rfl
      | some a => simp only [oc1, List.contains_iff_mem] at h; exact blt_iff.2 (hf _ h)
    | iface t u => simp only [oc1, Bool.not_eq_true'] at h; simp [rn1, lt1, h]
    | _ => rfl
  have h2 : ∀ v, oc2 bs v = true → lt2 n (rn2 f v) = true := fun v h => by
    cases v with
    | agg cs =>
      simp only [oc2, lt2, rn2, Array.toList_map, List.all_eq_true, List.mem_map] at *
      rintro _ ⟨y, hy, rfl⟩
      exact h1 y (h y hy)
    | pointer a =>
      cases a with
      | none => rfl
      | some a => exact h1 (.pointer (some a)) h
    | map a =>
      cases a with
      | none => rfl
      | some a => exact h1 (.map (some a)) h
    | slice a l c =>
      cases a with
      | none => rfl
      | some a => exact h1 (.slice (some a) l c) h
    | iface t u => exact h1 (.iface t u) h
    | _ => rfl
  cases v with
  | tuple cs =>
    simp only [oc, lt, rn, Array.toList_map, List.all_eq_true, List.mem_map] at *
    rintro _ ⟨y, hy, rfl⟩
    exact h2 y (hv y hy)
  | agg cs => exact h2 (.agg cs) hv
  | pointer a =>
    cases a with
    | none => rfl
    | some a => exact h1 (.pointer (some a)) hv
  | map a =>
    cases a with
    | none => rfl
    | some a => exact h1 (.map (some a)) hv
  | slice a l c =>
    cases a with
    | none => rfl
    | some a => exact h1 (.slice (some a) l c) hv
  | iface t u => exact h1 (.iface t u) hv
  | _ => rfl
/-! ### the smallest memory -/
/-- rows that are only read, no address in them -/
def Hp.rows (h : Hp) : Prop := h.l.length = h.n ∧ ∀ b x, h.blk? b = some x → ro x.2 = true ∧ (∀ v ∈ x.1, still v = true) ∧ ab x.2 = false
/-- these rows are there: block i's cells are the first of block s i's -/
def Hp.fits (h0 : Hp) (s : Nat → Nat) (h : Hp) : Prop := ∀ i x, h0.blk? i = some x → tomb x.2 = false → ∃ y r, h.blk? (s i) = some y ∧ tomb y.2 = false ∧ rt y.2 = rt x.2 ∧ y.1 = x.1 ++ r
theorem Emb.small {m : Mp} {B : Nat} {h h0 : Hp} {w : World} {s : Nat → Nat} (E : Emb m B h w) (hr : h0.rows) (hf : h0.fits s h) : Emb (fun i => m (s i)) w.heap.size h0 w where
  len := hr.1
  lies := fun b x hb hx => by
    obtain ⟨y, r, h1, h2, h3, h4⟩ := hf b x hb hx
    obtain ⟨r', z, l0, l1, _⟩ := E.lies _ _ h1 h2
    have calm := (hr.2 b x hb).2.1
    have e : x.1.map (mv1 m) = x.1.map (mv1 fun i => m (s i)) := still_map calm
    rw [h4, List.map_append] at l0 l1
    refine ⟨r.map (mv1 m) ++ r', z, ?_, ?_, fun hro => ?_⟩
    · simp at l0 ⊢; omega
    · rw [← e, l1, List.append_assoc]
    · rw [(hr.2 b x hb).1] at hro; cases hro
  low := fun b x hb hro => by rw [(hr.2 b x hb).1] at hro; cases hro
  ros := fun b x hb hx _ => by
    obtain ⟨y, r, h1, h2, _, _⟩ := hf b x hb hx
    exact E.here h1 h2
  inj := fun b b' x x' hb _ hro => by rw [(hr.2 b x hb).1] at hro; cases hro
  wf := fun b x hb v hv => still_lt (Nat.lt_of_le_of_lt (Nat.zero_le _) (Hp.blk_lt hb)) ((hr.2 b x hb).2.1 v hv)
  base := Nat.le_refl _
  ice := fun k h1 h2 => by omega
  abs := fun b x hb hx => by rw [(hr.2 b x hb).2.2] at hx; cases hx
/-- behind such a call: the value in the caller's numbers; no block of the call's own is kept -/
theorem row_calls {T : Tab} {f : Nat} {F : Func} {c : Code} (hF : T.P.funcs[f]? = some F) (hc : F.body = some c) {h0 : Hp} (hr : h0.rows) {vals : List Value} (hvals : ∀ v ∈ vals, lt h0.n v = true) {v : Value} (hv : oc (List.range h0.n) v = true)
    (hrun : Runs T c (vals ++ List.replicate (F.ntmps - vals.length) undef, h0, []) fun e y => (e = none ∨ e = some none) ∧ resS T.P F y.1 y.2.1 = some v)
    {m : Mp} {B : Nat} {h : Hp} {w : World} (E : Emb m B h w) {s : Nat → Nat} (hs : ∀ i, i < h0.n → s i < h.n) (hf : h0.fits s h) :
    Calls T.P f ((vals.map (rn s)).map (mv m)).toArray w fun e w' => e = .returned (mv m (rn s v)) ∧ Came m B h w (rn s v) h m w' := by
  have E0 := E.small hr hf
  have ev : (vals.map (rn s)).map (mv m) = vals.map (mv fun i => m (s i)) := by
    rw [List.map_map]
    exact List.map_congr_left fun y _ => mv_rn m s y
  rw [ev]
  refine calls_of_wp hF hc ?_
  have R : Rel (fun i => m (s i)) w.heap.size (vals ++ List.replicate (F.ntmps - vals.length) undef, h0, []) { tmps := (vals.map (mv fun i => m (s i))).toArray ++ Array.replicate (F.ntmps - (vals.map (mv fun i => m (s i))).toArray.size) undef, defers := [] } w := by
    refine ⟨?_, rfl, E0, ?_⟩
    · simp [mv_undef]
    · intro y hy
      rcases List.mem_append.1 hy with hy | hy
      · exact hvals y hy
      · rw [List.eq_of_mem_replicate hy]; simp [undef, lt]
  refine hrun _ _ _ w R _ fun e y he a' w' hR => ?_
  obtain ⟨hex, hres⟩ := he
  obtain ⟨m1, k1, k2, k3, _⟩ := hR
  obtain ⟨r1, r2⟩ := resS_run k2.emb k2.wf hres
  rw [← k2.tmps] at r1
  have e1 : mv m1 v = mv m (rn s v) := by
    rw [mv_rn]
    exact mv_on (fun b hb => k1 b (by simpa using hb)) hv
  rw [e1] at r1
  have td : Tidy w w' := ⟨k3, fun k h1 h2 => k2.emb.ice k h1 h2⟩
  obtain ⟨E', hb⟩ := clean_emb E td
  have post : a'.defers = [] ∧ ∃ v', (results F a'.tmps).run T.P w' = .ok v' w' ∧ (Ending.returned v' = .returned (mv m (rn s v)) ∧ Came m B h w (rn s v) h m w') :=
    ⟨k2.dfr, _, r1, rfl, ⟨Agree.refl _ _, E', hb, Nat.le_refl _, oc_ren (fun b hb => hs b (by simpa using hb)) hv⟩⟩
  rcases hex with rfl | rfl <;> exact post
/-- the same, where one block of the call's own is kept: 'k' in the small memory, the next one in the caller's -/
theorem row_calls1 {T : Tab} {f : Nat} {F : Func} {c : Code} (hF : T.P.funcs[f]? = some F) (hc : F.body = some c) {h0 : Hp} (hr : h0.rows) {vals : List Value} (hvals : ∀ v ∈ vals, lt h0.n v = true) {v : Value} {k : Nat}
    {cs : List Value} {ty : TypeId} (hcs : ∀ u ∈ cs, lt1 0 u = true) (hty : ro ty = false)
    (hrun : RunsW T c (vals ++ List.replicate (F.ntmps - vals.length) undef, h0, []) fun e y => (e = none ∨ e = some none) ∧ resS T.P F y.1 y.2.1 = some v ∧ ∃ r, y.2.1.blk? k = some (cs ++ r, ty))
    (hv0 : oc [k] v = true)
    {m : Mp} {B : Nat} {h : Hp} {w : World} (E : Emb m B h w) {s : Nat → Nat} (hf : h0.fits s h) :
    Calls T.P f ((vals.map (rn s)).map (mv m)).toArray w fun e w' => ∃ m', e = .returned (mv m' (rn (fun _ => h.n) v)) ∧ Came m B h w (rn (fun _ => h.n) v) (h.push cs ty) m' w' := by
  have E0 := E.small hr hf
  have ev : (vals.map (rn s)).map (mv m) = vals.map (mv fun i => m (s i)) := by
    rw [List.map_map]
    exact List.map_congr_left fun y _ => mv_rn m s y
  rw [ev]
  refine calls_of_wp hF hc ?_
  have R : Rel (fun i => m (s i)) w.heap.size (vals ++ List.replicate (F.ntmps - vals.length) undef, h0, []) { tmps := (vals.map (mv fun i => m (s i))).toArray ++ Array.replicate (F.ntmps - (vals.map (mv fun i => m (s i))).toArray.size) undef, defers := [] } w := by
    refine ⟨?_, rfl, E0, ?_⟩
    · simp [mv_undef]
    · intro y hy
      rcases List.mem_append.1 hy with hy | hy
      · exact hvals y hy
      · rw [List.eq_of_mem_replicate hy]; simp [undef, lt]
  refine hrun _ _ _ w R _ fun e y he m1 a' w' k2 k3 => ?_
  obtain ⟨hex, hres, r, hblk⟩ := he
  obtain ⟨r1, r2⟩ := resS_run k2.emb k2.wf hres
  rw [← k2.tmps] at r1
  have td : Tidy w w' := ⟨k3, fun k h1 h2 => k2.emb.ice k h1 h2⟩
  obtain ⟨E', hb⟩ := clean_emb E td
  have hlow : w.heap.size ≤ (m1 k).1 := k2.emb.low k _ hblk hty
  have hlie : lie w' (m1 k) (cs.map (mv1 m)) ty := by
    obtain ⟨r', z, l0, l1, l2⟩ := k2.emb.lies k _ hblk (tomb_ro hty)
    have e : cs.map (mv1 m1) = cs.map (mv1 m) := map_still hcs
    simp only [List.map_append] at l0 l1
    refine ⟨r.map (mv1 m1) ++ r', z, ?_, ?_, l2⟩
    · simp at l0 ⊢; omega
    · rw [← e, l1, List.append_assoc]
  have Ea := E'.adopt cs ty hty (fun u hu => lt1_mono (Nat.zero_le _) (hcs u hu)) hlie (Nat.le_trans E.base hlow) (fun b x hbx hx heq => by
    have := E.here hbx (tomb_ro hx)
    omega) (fun b x hbx hx hf => by
    have := E.at_ hbx hx hf
    omega)
  have e1 : mv m1 v = mv (upd m h.n (m1 k)) (rn (fun _ => h.n) v) := by
    rw [mv_rn]
    refine mv_on (fun b hb => ?_) hv0
    rw [List.mem_singleton.1 hb]
    simp [upd]
  rw [e1] at r1
  have post : a'.defers = [] ∧ ∃ v', (results F a'.tmps).run T.P w' = .ok v' w' ∧ ∃ m', Ending.returned v' = .returned (mv m' (rn (fun _ => h.n) v)) ∧ Came m B h w (rn (fun _ => h.n) v) (h.push cs ty) m' w' :=
    ⟨k2.dfr, _, r1, upd m h.n (m1 k), rfl, ⟨upd_agree _ _ _, Ea, hb, Nat.le_succ _, oc_ren (bs := [k]) (fun b hb => by show h.n < h.n + 1; omega) hv0⟩⟩
  rcases hex with rfl | rfl <;> exact post
end Go.KRun
namespace Go.Proofs.YtjkgnbdeklploaaGreatDoor
open Go.KRun
set_option maxRecDepth 100000
theorem okOne {p : Bool × Bool} (h : p.1 = p.2) : okLog [p] := fun x hx => by rw [List.mem_singleton.1 hx]; exact h
theorem okTwo {p : Bool × Bool} {l : Log} (h : p.1 = p.2) (hl : okLog l) : okLog (p :: l) := fun x hx => by
  rcases List.mem_cons.1 hx with rfl | hx
  · exact h
  · exact hl x hx
theorem wrapI {n : Int} (h0 : -9223372036854775808 ≤ n) (h1 : n ≤ 9223372036854775807) : IntKind.i64.wrap n = n := by
  simp [IntKind.wrap, IntKind.bits, IntKind.signed]; omega
/-! ### what is known of calls with rows -/
abbrev Hc := Nat → List Value → Hp → List Dec → Option (Value × Hp × List Dec × Log)
abbrev AnsH := List Value → Hp → List Dec → Option (Value × Hp × List Dec × Log)
def AnsHOk (f : Nat) (g : AnsH) : Prop := ∀ vals h s v h' s' lg, g vals h s = some (v, h', s', lg) → okLog lg → ∀ m B w, Emb m B h w → (∀ v ∈ vals, lt h.n v = true) → Calls Tryz.prog f (vals.map (mv m)).toArray w fun e w' => ∃ m', e = .returned (mv m' v) ∧ Came m B h w v h' m' w'
structure HcOk (hc : Hc) : Prop where
  fn : ∀ f vals h s r, hc f vals h s = some r → ∃ F, Tryz.prog.funcs[f]? = some F ∧ F.body.isSome = true
  calls : ∀ f, AnsHOk f (hc f)
def hcN : Hc := fun _ _ _ _ => none
theorem hcN_ok : HcOk hcN := ⟨fun _ _ _ _ _ h => (by cases h), fun _ _ _ _ _ _ _ _ h => (by cases h)⟩
def altH (f : Nat) (g : AnsH) (hc : Hc) : Hc := fun f' vals h s => if Nat.beq f' f = true then g vals h s else hc f' vals h s
theorem altH_ok {f : Nat} {F : Func} (hF : Tryz.prog.funcs[f]? = some F) (hb : F.body.isSome = true) {g : AnsH} (hg : AnsHOk f g) {hc : Hc} (h : HcOk hc) : HcOk (altH f g hc) where
  fn := fun f' vals h' s r hr => by
    unfold altH at hr
    split at hr
    · rename_i e
      rw [Nat.eq_of_beq_eq_true e]
      exact ⟨F, hF, hb⟩
    · exact h.fn _ _ _ _ _ hr
  calls := fun f' vals h' s v h'' s' lg hr => by
    unfold altH at hr
    split at hr
    · rename_i e
      rw [Nat.eq_of_beq_eq_true e]
      exact hg _ _ _ _ _ _ _ hr
    · exact h.calls f' _ _ _ _ _ _ _ hr
def tabH (P : Program) (ext : Nat → List Value → Option (Value × Log)) (con : Con) (hc : Hc) : Tab := { P := P, fn := fun f => P.funcs[f]?, ext := ext, con := con, sym := true, hc := hc }
theorem tabH_ok {con : Con} (h : ConOk con) {hc : Hc} (hh : HcOk hc) : TabOk (tabH Tryz.prog extY con hc) where
  mixed := mixed
  ext := extY_ok
  con := fun f vals s v s' lg hc hl => ⟨by obtain ⟨F, h1, h2⟩ := h.fn f vals s v s' lg hc; exact ⟨F, (fns_ok f F h1).1, (fns_ok f F h1).2, h2⟩, h.calls f vals s v s' lg hc hl⟩
  fn := fns_ok
  hc := fun f vals h0 s v h' s' lg hr hl => ⟨by obtain ⟨F, h1, h2⟩ := hh.fn f vals h0 s _ hr; exact ⟨F, (fns_ok f F h1).1, (fns_ok f F h1).2, h2⟩, hh.calls f vals h0 s v h' s' lg hr hl⟩
end Go.Proofs.YtjkgnbdeklploaaGreatDoor
namespace Go.Proofs.YtjkgnbdeklploaaGreatDoor
open Go.KRun Go.Nt
set_option maxRecDepth 100000
/-- words of 32 bits; the type of such a row's block, only read -/
def wU (L : List Int) : List Value := L.map (Value.int .u32)
def tU : TypeId := 140
def tR : TypeId := 140 + dead
theorem tR_ro : ro tR = true := by kernel_rfl
theorem tR_ab : ab tR = false := by kernel_rfl
theorem tR_tomb : tomb tR = false := by kernel_rfl
theorem tR_rt : rt tR = tU := by kernel_rfl
def sl (b o n c : Nat) : Value := .slice (some ⟨b, o, none⟩) n c
def nilS : Value := .slice none 0 0
def n1 (n : Nat) : Int := IntKind.i64.wrap ((n : Int) - 1)
/-! ### rows of words in a memory -/
def intOf : Value → Int
  | .int _ n => n
  | _ => 0
def isU : Value → Bool
  | .int .u32 n => decide (0 ≤ n ∧ n < 4294967296)
  | _ => false
theorem isU_spec {v : Value} (h : isU v = true) : v = .int .u32 (intOf v) ∧ 0 ≤ intOf v ∧ intOf v < 4294967296 := by
  unfold isU at h
  split at h
  · simp only [decide_eq_true_eq] at h
    exact ⟨rfl, h.1, h.2⟩
  · cases h
def cutV (l : List Value) (o n : Nat) : List Value := (l.drop o).take n
def cutI (l : List Value) (o n : Nat) : List Int := (cutV l o n).map intOf
theorem cutV_words {l : List Value} {o n : Nat} (h : ((cutV l o n).all isU) = true) : cutV l o n = wU (cutI l o n) := by
  unfold wU cutI
  rw [List.map_map]
  refine (List.map_id' _).symm.trans (List.map_congr_left fun v hv => ?_)
  exact (isU_spec (List.all_eq_true.1 h v hv)).1
/-- what is needed of a row in the smallest memory -/
structure Row (l : List Value) (o : Nat) (L : List Int) : Prop where
  len : o + L.length ≤ l.length
  cut : cutV l o L.length = wU L
  rng : ∀ x ∈ L, 0 ≤ x ∧ x < 4294967296
theorem Row.cell {l : List Value} {o : Nat} {L : List Int} (h : Row l o L) {k : Nat} (hk : k < L.length) : l[o + k]? = some (.int .u32 (L.getD k 0)) := by
  have e : (cutV l o L.length)[k]? = (wU L)[k]? := by rw [h.cut]
  unfold cutV wU at e
  rw [List.getElem?_take, if_pos hk, List.getElem?_drop, List.getElem?_map] at e
  rw [e, List.getElem?_eq_getElem hk]
  simp [List.getD, List.getElem?_eq_getElem hk]
/-- one row, the smallest memory -/
theorem rows1 {l : List Value} (h : ∀ v ∈ l, still v = true) : (⟨1, [(l, tR)]⟩ : Hp).rows := by
  refine ⟨rfl, fun b x hb => ?_⟩
  have hb0 : b = 0 := by have : b < 1 := Hp.blk_lt hb; omega
  subst hb0
  have : x = (l, tR) := (Option.some.inj hb).symm
  rw [this]
  exact ⟨tR_ro, h, tR_ab⟩
theorem fitsR1 {l : List Value} {h : Hp} {b : Nat} {x : List Value × TypeId} (hb : h.blk? b = some x) (h1 : tomb x.2 = false) (h2 : rt x.2 = tU) (e : x.1 = l) : (⟨1, [(l, tR)]⟩ : Hp).fits (fun _ => b) h := by
  intro i y hi _
  have hb0 : i = 0 := by have : i < 1 := Hp.blk_lt hi; omega
  subst hb0
  have : y = (l, tR) := (Option.some.inj hi).symm
  rw [this]
  exact ⟨x, [], hb, h1, by rw [h2]; exact tR_rt.symm, by rw [e, List.append_nil]⟩
/-- two rows -/
def h2 (la lb : List Value) : Hp := ⟨2, [(lb, tR), (la, tR)]⟩
def pair (a b i : Nat) : Nat := if Nat.beq i 0 = true then a else b
theorem blk2 {la lb : List Value} {i : Nat} {x : List Value × TypeId} (h : (h2 la lb).blk? i = some x) : (i = 0 ∧ x = (la, tR)) ∨ (i = 1 ∧ x = (lb, tR)) := by
  have : i < 2 := Hp.blk_lt h
  have : i = 0 ∨ i = 1 := by omega
  rcases this with rfl | rfl
  · exact .inl ⟨rfl, (Option.some.inj h).symm⟩
  · exact .inr ⟨rfl, (Option.some.inj h).symm⟩
theorem rows2 {la lb : List Value} (ha : ∀ v ∈ la, still v = true) (hb : ∀ v ∈ lb, still v = true) : (h2 la lb).rows := by
  refine ⟨rfl, fun b x hx => ?_⟩
  rcases blk2 hx with ⟨_, e⟩ | ⟨_, e⟩ <;> rw [e]
  · exact ⟨tR_ro, ha, tR_ab⟩
  · exact ⟨tR_ro, hb, tR_ab⟩
theorem fitsR2 {h : Hp} {a b : Nat} {x y : List Value × TypeId} (hx : h.blk? a = some x) (x1 : tomb x.2 = false) (x2 : rt x.2 = tU) (hy : h.blk? b = some y) (y1 : tomb y.2 = false) (y2 : rt y.2 = tU) : (h2 x.1 y.1).fits (pair a b) h := by
  intro i z hz _
  rcases blk2 hz with ⟨rfl, e⟩ | ⟨rfl, e⟩ <;> rw [e]
  · exact ⟨x, [], hx, x1, by rw [x2]; exact tR_rt.symm, by rw [List.append_nil]⟩
  · exact ⟨y, [], hy, y1, by rw [y2]; exact tR_rt.symm, by rw [List.append_nil]⟩
end Go.Proofs.YtjkgnbdeklploaaGreatDoor
namespace Go.KRun
open Go.RowKit
theorem compact {m : Mp} {B : Nat} {t t' : List Value} {h h' : Hp} {s : List Dec} {a : Act} {w : World} (R : Rel m B (t, h, s) a w) (f : Nat → Nat) (hl : h'.l.length = h'.n)
    (hb : ∀ i x, h'.blk? i = some x → (∀ v ∈ x.1, still v = true) ∧ ∃ y r, h.blk? (f i) = some y ∧ y.2 = x.2 ∧ y.1 = x.1 ++ r)
    (hi : ∀ i j x y, h'.blk? i = some x → h'.blk? j = some y → ro x.2 = false ∨ spK x.2 = true → ro y.2 = false ∨ spK y.2 = true → f i = f j → i = j)
    (ht : t'.map (mv fun i => m (f i)) = t.map (mv m)) (hw : ∀ v ∈ t', lt h'.n v = true) : Rel (fun i => m (f i)) B (t', h', s) a w := by
  have E := R.emb
  refine ⟨by rw [R.tmps]; simp only; rw [ht], R.dfr, ?_, hw⟩
  refine ⟨hl, ?_, ?_, ?_, ?_, ?_, E.base, E.ice, ?_⟩
  · intro b x hx ht
    obtain ⟨q1, y, r, q2, q3, q4⟩ := hb b x hx
    obtain ⟨r0, z, e1, e2, e3⟩ := E.lies (f b) y q2 (by rw [q3]; exact ht)
    rw [q4, List.map_append, still_map (m' := fun i => m (f i)) q1] at e1 e2
    refine ⟨r.map (mv1 m) ++ r0, z, by rw [← e1]; simp; omega, by rw [e2, List.append_assoc], by rw [← q3]; exact e3⟩
  · intro b x hx hr
    obtain ⟨_, y, r, q2, q3, _⟩ := hb b x hx
    exact E.low (f b) y q2 (by rw [q3]; exact hr)
  · intro b x hx ht hr
    obtain ⟨_, y, r, q2, q3, _⟩ := hb b x hx
    exact E.ros (f b) y q2 (by rw [q3]; exact ht) (by rw [q3]; exact hr)
  · intro b b' x x' hx hx' hr hr' he
    obtain ⟨_, y, r, q2, q3, _⟩ := hb b x hx
    obtain ⟨_, y', r', q2', q3', _⟩ := hb b' x' hx'
    exact hi b b' x x' hx hx' (.inl hr) (.inl hr') (E.inj _ _ y y' q2 q2' (by rw [q3]; exact hr) (by rw [q3']; exact hr') he)
  · intro b x hx v hv
    exact still_lt (Nat.lt_of_le_of_lt (Nat.zero_le _) (Hp.blk_lt hx)) ((hb b x hx).1 v hv)
  · intro b x hx ha
    obtain ⟨q1, y, r, q2, q3, q4⟩ := hb b x hx
    exact (E.abs (f b) y q2 (by rw [q3]; exact ha)).ren (f := f) (r := r.map (mv1 m)) q3 (by rw [q4, List.map_append, still_map (m' := fun i => m (f i)) q1]) (fun c z hz => by
      obtain ⟨_, y', _, q2', q3', _⟩ := hb c z hz
      exact ⟨y', q2', q3'⟩) fun c z hz hs hs' hc => hi c b z x hz hx (.inr hs) (.inr hs') hc
/-- the temporaries that are needed, with their blocks' new numbers; the others as the world has them -/
theorem anew {m : Mp} (f : Nat → Nat) {front front' rest : List Value} (h : front'.map (rn f) = front) : (front' ++ rest.map (fun v => Value.iface dead (mv m v))).map (mv fun i => m (f i)) = (front ++ rest).map (mv m) := by
  rw [List.map_append, List.map_append, ← h, List.map_map, List.map_map]
  congr 1
  · exact List.map_congr_left fun v _ => (mv_rn m f v).symm
/-- the memory made small behind a piece of code -/
theorem RunsW.small {T : Tab} {c : Code} {x : Lf} {P : Ex → Lf → Prop} (hr : RunsW T c x P) {P' : Ex → Lf → Prop}
    (hp : ∀ e y, P e y → P' e y ∨ ∃ (front front' rest : List Value) (h h' : Hp) (s : List Dec) (f : Nat → Nat), y = (front ++ rest, h, s) ∧ front'.map (rn f) = front ∧ h'.l.length = h'.n ∧ 0 < h'.n ∧
      (∀ i x, h'.blk? i = some x → (∀ v ∈ x.1, still v = true) ∧ ∃ y r, h.blk? (f i) = some y ∧ y.2 = x.2 ∧ y.1 = x.1 ++ r) ∧
      (∀ i j x y, h'.blk? i = some x → h'.blk? j = some y → ro x.2 = false ∨ spK x.2 = true → ro y.2 = false ∨ spK y.2 = true → f i = f j → i = j) ∧ (∀ v ∈ front', lt h'.n v = true) ∧ ∀ g, P' e (front' ++ tl rest.length g, h', s)) : RunsW T c x P' := by
  intro m B a w R Q hQ
  refine hr m B a w R Q fun e y he m' a' w' R' hb' => ?_
  rcases hp e y he with h1 | ⟨front, front', rest, h, h', s, f, rfl, e1, e2, e3, e4, e5, e6, e7⟩
  · exact hQ e y h1 m' a' w' R' hb'
  · obtain ⟨g, hg⟩ := tl_of (J := rest.map (fun v => Value.iface dead (mv m' v))) (n := rest.length) (by simp)
    refine hQ e _ (e7 g) _ a' w' (compact R' f e2 e4 e5 (by rw [← hg]; exact anew f e1) ?_) hb'
    intro v hv
    rw [← hg] at hv
    rcases List.mem_append.1 hv with hv | hv
    · exact e6 v hv
    · obtain ⟨u, _, rfl⟩ := List.mem_map.1 hv
      simp [lt, lt2, lt1, e3, dead]
/-- a 'for', its memory made small behind each round -/
theorem RunsW.forLoop {T : Tab} {c : Code} {id : Nat} {x : Lf} {P : Lf → Prop} {R : Lf → Prop} (Inv : Nat → Lf → Prop)
    (round : ∀ n x, Inv n x → RunsW T c x fun e y => match e with | none => ∃ n', n' < n ∧ Inv n' y | some none => R y | some (some id') => id' = id ∧ P y) {n : Nat} (h0 : Inv n x) :
    RunsW T (.block id (.loop c)) x fun e y => match e with | none => P y | some none => R y | some (some _) => False := by
  refine RunsW.block (P1 := fun e y => match e with | none => False | some none => R y | some (some id') => id' = id ∧ P y) ?_ (fun y he => he.elim) (fun y he => he) (fun y he => he.2) (fun id' y hid he => absurd he.1 hid)
  refine RunsW.loop Inv (fun n x hI => (round n x hI).mono fun e y he => ?_) h0
  match e, he with
  | none, he => exact he
  | some none, he => exact he
  | some (some id'), he => exact he
theorem goesT_runsW {T : Tab} (hT : TabOk T) {N : Nat} {c : Code} {t : List Value} {h h' : Hp} {s s0 : List Dec} {k n : Nat} {e : Ex} {front : List Value} {cs : Log} (hG : GoesT (evC T N false c (t, h, s) ⟨[], [], []⟩) k n e front h' cs) (hcs : okLog cs) :
    RunsW T c (t, h, s0) fun e' y => e' = e ∧ (∃ g, y.1 = front ++ tl n g) ∧ y.2.1 = h' := (goesT_runs hT hG hcs).w
theorem tl_len (n : Nat) (g : Nat → Value) : (tl n g).length = n := by simp [tl]
/-- two blocks of a memory kept, the first and another one -/
def keep2 (b : Nat) (i : Nat) : Nat := if i = 0 then 0 else b
theorem blkTwo {x y : List Value × TypeId} {i : Nat} {z : List Value × TypeId} (h : (⟨2, [y, x]⟩ : Hp).blk? i = some z) : (i = 0 ∧ z = x) ∨ (i = 1 ∧ z = y) := by
  have : i < 2 := Hp.blk_lt h
  have : i = 0 ∨ i = 1 := by omega
  rcases this with rfl | rfl
  · exact .inl ⟨rfl, (Option.some.inj h).symm⟩
  · exact .inr ⟨rfl, (Option.some.inj h).symm⟩
/-- behind a round: the first block and the newest one are kept -/
theorem RunsW.two {T : Tab} {c : Code} {x0 : Lf} {ex : Ex} {front front' : List Value} {n b : Nat} {h : Hp} {x y : List Value × TypeId} (hr : RunsW T c x0 fun e z => e = ex ∧ (∃ g, z.1 = front ++ tl n g) ∧ z.2.1 = h)
    (hf : front'.map (rn (keep2 b)) = front) (hx : h.blk? 0 = some x) (hy : h.blk? b = some y) (hb : b ≠ 0) (sx : ∀ v ∈ x.1, still v = true) (sy : ∀ v ∈ y.1, still v = true) (hw : ∀ v ∈ front', lt 2 v = true) :
    RunsW T c x0 fun e z => e = ex ∧ (∃ g, z.1 = front' ++ tl n g) ∧ z.2.1 = ⟨2, [y, x]⟩ := by
  refine hr.small fun e z he => .inr ?_
  obtain ⟨rfl, ⟨g, h1⟩, h2⟩ := he
  obtain ⟨t, h', s⟩ := z
  simp only at h1 h2
  subst h1 h2
  refine ⟨front, front', tl n g, h', ⟨2, [y, x]⟩, s, keep2 b, rfl, hf, rfl, (by show 0 < 2; omega), fun i z hz => ?_, fun i j u v hi hj _ _ hij => ?_, hw, fun g' => ⟨rfl, ⟨g', by rw [tl_len]⟩, rfl⟩⟩
  · rcases blkTwo hz with ⟨rfl, rfl⟩ | ⟨rfl, rfl⟩
    · exact ⟨sx, z, [], by simpa [keep2] using hx, rfl, by simp⟩
    · exact ⟨sy, z, [], by simpa [keep2] using hy, rfl, by simp⟩
  · rcases blkTwo hi with ⟨rfl, _⟩ | ⟨rfl, _⟩ <;> rcases blkTwo hj with ⟨rfl, _⟩ | ⟨rfl, _⟩
    · rfl
    · simp [keep2] at hij; exact absurd hij.symm hb
    · simp [keep2] at hij; exact absurd hij hb
    · rfl
/-- the first blocks of a memory kept, and another one -/
def keepK (k b : Nat) (i : Nat) : Nat := if Nat.blt i k = true then i else b
theorem blkK1 {base : List (List Value × TypeId)} {k : Nat} (hk : base.length = k) {y : List Value × TypeId} {i : Nat} {z : List Value × TypeId} (h : (⟨k + 1, y :: base⟩ : Hp).blk? i = some z) : (i < k ∧ (⟨k, base⟩ : Hp).blk? i = some z) ∨ (i = k ∧ z = y) := by
  have hi : i < k + 1 := Hp.blk_lt h
  by_cases h0 : i = k
  · subst h0
    have : (⟨i + 1, y :: base⟩ : Hp).blk? i = some y := by
      unfold Hp.blk?
      rw [if_pos (blt_iff.2 (by show i < i + 1; omega))]
      show (y :: base)[i + 1 - 1 - i]? = some y
      rw [show i + 1 - 1 - i = 0 from by omega]
      rfl
    rw [this] at h
    exact .inr ⟨rfl, (Option.some.inj h).symm⟩
  · refine .inl ⟨by omega, ?_⟩
    unfold Hp.blk? at h ⊢
    rw [if_pos (blt_iff.2 (by show i < k + 1; omega))] at h
    rw [if_pos (blt_iff.2 (by show i < k; omega))]
    have e : k + 1 - 1 - i = (k - 1 - i) + 1 := by omega
    have h' : (y :: base)[k + 1 - 1 - i]? = some z := h
    rw [e, List.getElem?_cons_succ] at h'
    exact h'
/-- behind a round: the first blocks and one more are kept -/
theorem RunsW.kept {T : Tab} {c : Code} {x0 : Lf} {ex : Ex} {front front' : List Value} {n k b : Nat} {h : Hp} {base : List (List Value × TypeId)} {y : List Value × TypeId} (hr : RunsW T c x0 fun e z => e = ex ∧ (∃ g, z.1 = front ++ tl n g) ∧ z.2.1 = h)
    (hk : base.length = k) (hf : front'.map (rn (keepK k b)) = front) (hx : ∀ i x, (⟨k, base⟩ : Hp).blk? i = some x → h.blk? i = some x ∧ ∀ v ∈ x.1, still v = true) (hy : h.blk? b = some y) (hb : k ≤ b) (sy : ∀ v ∈ y.1, still v = true) (hw : ∀ v ∈ front', lt (k + 1) v = true) :
    RunsW T c x0 fun e z => e = ex ∧ (∃ g, z.1 = front' ++ tl n g) ∧ z.2.1 = ⟨k + 1, y :: base⟩ := by
  refine hr.small fun e z he => .inr ?_
  obtain ⟨rfl, ⟨g, h1⟩, h2⟩ := he
  obtain ⟨t, h', s⟩ := z
  simp only at h1 h2
  subst h1 h2
  refine ⟨front, front', tl n g, h', ⟨k + 1, y :: base⟩, s, keepK k b, rfl, hf, by simp [hk], Nat.succ_pos _, fun i z hz => ?_, fun i j u v hi hj _ _ hij => ?_, hw, fun g' => ⟨rfl, ⟨g', by rw [tl_len]⟩, rfl⟩⟩
  · rcases blkK1 hk hz with ⟨hi, hz'⟩ | ⟨rfl, rfl⟩
    · obtain ⟨q1, q2⟩ := hx i z hz'
      exact ⟨q2, z, [], by unfold keepK; rw [if_pos (blt_iff.2 hi)]; exact q1, rfl, by simp⟩
    · exact ⟨sy, z, [], by unfold keepK; rw [if_neg (by rw [blt_iff]; omega)]; exact hy, rfl, by simp⟩
  · unfold keepK at hij
    rcases blkK1 hk hi with ⟨h1, _⟩ | ⟨rfl, _⟩ <;> rcases blkK1 hk hj with ⟨h2, _⟩ | ⟨rfl, _⟩
    · rw [if_pos (blt_iff.2 h1), if_pos (blt_iff.2 h2)] at hij; exact hij
    · rw [if_pos (blt_iff.2 h1), if_neg (by rw [blt_iff]; omega)] at hij; omega
    · rw [if_pos (blt_iff.2 h2), if_neg (by rw [blt_iff]; omega)] at hij; omega
    · rfl
/-- a call with rows whose answer holds no address, and that keeps no block -/
theorem row_calls0 {T : Tab} {f : Nat} {F : Func} {c : Code} (hF : T.P.funcs[f]? = some F) (hc : F.body = some c) {h0 : Hp} (hr : h0.rows) {vals : List Value} (hvals : ∀ v ∈ vals, lt h0.n v = true) {v : Value} (hv : lt 0 v = true)
    (hrun : RunsW T c (vals ++ List.replicate (F.ntmps - vals.length) undef, h0, []) fun e y => (e = none ∨ e = some none) ∧ resS T.P F y.1 y.2.1 = some v)
    {m : Mp} {B : Nat} {h : Hp} {w : World} (E : Emb m B h w) {s : Nat → Nat} (hf : h0.fits s h) :
    Calls T.P f ((vals.map (rn s)).map (mv m)).toArray w fun e w' => ∃ m', e = .returned (mv m' v) ∧ Came m B h w v h m' w' := by
  have E0 := E.small hr hf
  have ev : (vals.map (rn s)).map (mv m) = vals.map (mv fun i => m (s i)) := by
    rw [List.map_map]
    exact List.map_congr_left fun y _ => mv_rn m s y
  rw [ev]
  refine calls_of_wp hF hc ?_
  have R : Rel (fun i => m (s i)) w.heap.size (vals ++ List.replicate (F.ntmps - vals.length) undef, h0, []) { tmps := (vals.map (mv fun i => m (s i))).toArray ++ Array.replicate (F.ntmps - (vals.map (mv fun i => m (s i))).toArray.size) undef, defers := [] } w := by
    refine ⟨?_, rfl, E0, ?_⟩
    · simp [mv_undef]
    · intro y hy
      rcases List.mem_append.1 hy with hy | hy
      · exact hvals y hy
      · rw [List.eq_of_mem_replicate hy]; simp [undef, lt]
  refine hrun _ _ _ w R _ fun e y he m1 a' w' k2 k3 => ?_
  obtain ⟨hex, hres⟩ := he
  obtain ⟨r1, r2⟩ := resS_run k2.emb k2.wf hres
  rw [← k2.tmps, mv_still hv] at r1
  have td : Tidy w w' := ⟨k3, fun k h1 h2 => k2.emb.ice k h1 h2⟩
  obtain ⟨E', hb⟩ := clean_emb E td
  have post : a'.defers = [] ∧ ∃ v', (results F a'.tmps).run T.P w' = .ok v' w' ∧ ∃ m', Ending.returned v' = .returned (mv m' v) ∧ Came m B h w v h m' w' :=
    ⟨k2.dfr, _, r1, m, by rw [mv_still hv], ⟨Agree.refl _ _, E', hb, Nat.le_refl _, lt_mono (Nat.zero_le _) hv⟩⟩
  rcases hex with rfl | rfl <;> exact post
end Go.KRun
namespace Go.Proofs.YtjkgnbdeklploaaGreatDoor
open Go.KRun Go.Nt
set_option maxRecDepth 100000
def uPre (F : Func) : List Code := [cFst (cBody F), cFst (cSnd (cBody F))]
def uLoop (F : Func) : Code := cIn (cIn (cFst (cSnd (cSnd (cBody F)))))
def uEnd (F : Func) : Code := cSnd (cSnd (cSnd (cBody F)))
theorem utrim_body : Tryz.f84.body = some (seqs (uPre Tryz.f84) (.seq (.block 0 (.loop (uLoop Tryz.f84))) (uEnd Tryz.f84))) := by kernel_rfl
theorem utr_pre (p : Option Addr) (n c : Nat) (h : Hp) : GoesT (evL (tabOf Tryz.prog extY conN true) 100 (uPre Tryz.f84) ([.slice p n c] ++ List.replicate 21 undef, h, []) ⟨[], [], []⟩) 4 18 none [.slice p n c, undef, nilS, .int .i64 n] h [] := ⟨by kernel_rfl, by kernel_rfl, by kernel_rfl⟩
def i1 (k : Int) : Int := IntKind.i64.wrap (k - 1)
theorem utr_go (o n c : Nat) (k x : Int) (l : List Value) (j1 j2 : Value) (g : Nat → Value) : GoesT (evC (tabOf Tryz.prog extY conN true) 100 false (uLoop Tryz.f84) ([sl 0 o n c, j1, j2, .int .i64 k] ++ tl 18 g, ⟨1, [(l, tR)]⟩, [cmp true, at_, val (.int .u32 x), cmp true]) ⟨[], [], []⟩) 4 18 none [sl 0 o n c, j1, j2, .int .i64 (i1 k)] ⟨1, [(l, tR)]⟩
    [(x == 0, true), (cellIs (l[o + (i1 k).toNat * 1]?) (.int .u32 x), true), (decide (0 ≤ i1 k ∧ i1 k < n), true), (decide (k > 0), true)] := ⟨by kernel_rfl, by kernel_rfl, by kernel_rfl⟩
theorem utr_out1 (o n c : Nat) (k x : Int) (l : List Value) (j1 j2 : Value) (g : Nat → Value) : GoesT (evC (tabOf Tryz.prog extY conN true) 100 false (uLoop Tryz.f84) ([sl 0 o n c, j1, j2, .int .i64 k] ++ tl 18 g, ⟨1, [(l, tR)]⟩, [cmp true, at_, val (.int .u32 x), cmp false]) ⟨[], [], []⟩) 4 18 (some (some 0)) [sl 0 o n c, j1, j2, .int .i64 k] ⟨1, [(l, tR)]⟩
    [(x == 0, false), (cellIs (l[o + (i1 k).toNat * 1]?) (.int .u32 x), true), (decide (0 ≤ i1 k ∧ i1 k < n), true), (decide (k > 0), true)] := ⟨by kernel_rfl, by kernel_rfl, by kernel_rfl⟩
theorem utr_out0 (v : Value) (k : Int) (h : Hp) (j1 j2 : Value) (g : Nat → Value) : GoesT (evC (tabOf Tryz.prog extY conN true) 100 false (uLoop Tryz.f84) ([v, j1, j2, .int .i64 k] ++ tl 18 g, h, [cmp false]) ⟨[], [], []⟩) 4 18 (some (some 0)) [v, j1, j2, .int .i64 k] h [(decide (k > 0), false)] := ⟨by kernel_rfl, by kernel_rfl, by kernel_rfl⟩
theorem utr_end (o n c k : Nat) (l : List Value) (j1 j2 : Value) (g : Nat → Value) : GoesT (evC (tabOf Tryz.prog extY conN true) 100 false (uEnd Tryz.f84) ([sl 0 o n c, j1, j2, .int .i64 k] ++ tl 18 g, ⟨1, [(l, tR)]⟩, [num 0]) ⟨[], [], []⟩) 4 18 (some none) [sl 0 o n c, j1, sl 0 o k k, .int .i64 k] ⟨1, [(l, tR)]⟩
    [(smallC c, true), (okPart 0 k k c, true), (decide ((k : Int) = 0 ∧ (0 : Int) ≠ 0), false)] := ⟨by kernel_rfl, by kernel_rfl, by kernel_rfl⟩
theorem utr_endg (n k : Nat) (l : List Value) (j1 j2 : Value) (g : Nat → Value) : GoesT (evC (tabOf Tryz.prog extY conN true) 100 false (uEnd Tryz.f84) ([sl 0 0 n grown, j1, j2, .int .i64 k] ++ tl 18 g, ⟨1, [(l, tR)]⟩, [at_]) ⟨[], [], []⟩) 4 18 (some none) [sl 0 0 n grown, j1, sl 0 0 k k, .int .i64 k] ⟨1, [(l, tR)]⟩
    [(okPart 0 k k n, true), (decide ((k : Int) = 0 ∧ (0 : Int) ≠ 0), false), (!(tomb tR) && Nat.ble n l.length, true)] := ⟨by kernel_rfl, by kernel_rfl, by kernel_rfl⟩
/-- a capacity that is known, or the whole block's -/
def capOk (o n c : Nat) : Bool := (smallC c && Nat.ble n c) || (Nat.beq c grown && Nat.beq o 0)
theorem utrim_runs {l : List Value} {o c : Nat} {L : List Int} (hR : Row l o L) (hL : L.length < 4611686018427387904) (hc : capOk o L.length c = true) :
    Runs (tabOf Tryz.prog extY conN true) (seqs (uPre Tryz.f84) (.seq (.block 0 (.loop (uLoop Tryz.f84))) (uEnd Tryz.f84))) ([sl 0 o L.length c] ++ List.replicate 21 undef, ⟨1, [(l, tR)]⟩, []) fun e y => (e = none ∨ e = some none) ∧ resS Tryz.prog Tryz.f84 y.1 y.2.1 = some (sl 0 o (trimN L) (trimN L)) := by
  refine goesT_list (tabY_ok conN_ok) (utr_pre _ _ _ _) (fun x hx => by cases hx) fun g => ?_
  refine Runs.seq (P1 := fun e y => e = none ∧ (∃ g, y.1 = [sl 0 o L.length c, undef, nilS, .int .i64 (trimN L : Nat)] ++ tl 18 g) ∧ y.2.1 = ⟨1, [(l, tR)]⟩) ?_ ?_ (fun e y he => by cases he.1)
  · refine (Runs.forLoop (P := fun y => (∃ g, y.1 = [sl 0 o L.length c, undef, nilS, .int .i64 (trimN L : Nat)] ++ tl 18 g) ∧ y.2.1 = ⟨1, [(l, tR)]⟩) (R := fun _ => False) (fun n y => (∃ g, y.1 = [sl 0 o L.length c, undef, nilS, .int .i64 (n : Nat)] ++ tl 18 g) ∧ y.2.1 = ⟨1, [(l, tR)]⟩ ∧ n ≤ L.length ∧ ∀ i, n ≤ i → L.getD i 0 = 0) ?_ (n := L.length) ⟨⟨g, rfl⟩, rfl, Nat.le_refl _, fun i hi => by simp [List.getD, List.getElem?_eq_none hi]⟩).mono fun e y he => ?_
    · rintro n ⟨t, h', s⟩ ⟨⟨g, ht⟩, hh, hle, hz⟩
      simp only at ht hh
      subst ht hh
      cases n with
      | zero =>
        refine (goesT_runs (tabY_ok conN_ok) (utr_out0 _ _ _ undef nilS g) (okOne (by rfl))).mono fun e y he => ?_
        obtain ⟨rfl, ⟨g', h2⟩, h3⟩ := he
        have e0 : trimN L = 0 := trimN_uniq hz (.inl rfl)
        exact ⟨rfl, ⟨g', by rw [h2, e0]⟩, h3⟩
      | succ k =>
        have ek : i1 ((k + 1 : Nat) : Int) = (k : Int) := by
          unfold i1
          rw [wrapI (by omega) (by omega)]
          omega
        have hcell := hR.cell (k := k) (by omega)
        have hce : cellIs (l[o + (i1 ((k + 1 : Nat) : Int)).toNat * 1]?) (.int .u32 (L.getD k 0)) = true := by
          rw [ek, Int.toNat_natCast, Nat.mul_one, hcell]
          simp [cellIs]
        have hix : decide (0 ≤ i1 ((k + 1 : Nat) : Int) ∧ i1 ((k + 1 : Nat) : Int) < (L.length : Int)) = true := by rw [ek]; exact decide_eq_true (by omega)
        have hgt : decide (((k + 1 : Nat) : Int) > 0) = true := decide_eq_true (by omega)
        by_cases hx : L.getD k 0 = 0
        · refine (goesT_runs (tabY_ok conN_ok) (utr_go o L.length c ((k + 1 : Nat) : Int) (L.getD k 0) l undef nilS g) (okTwo (by rw [hx]; rfl) (okTwo hce (okTwo hix (okOne hgt))))).mono fun e y he => ?_
          obtain ⟨rfl, ⟨g', h2⟩, h3⟩ := he
          rw [ek] at h2
          refine ⟨k, by omega, ⟨g', h2⟩, h3, by omega, fun i hi => ?_⟩
          rcases Nat.lt_or_ge k i with h | h
          · exact hz i h
          · have : i = k := by omega
            rw [this]; exact hx
        · refine (goesT_runs (tabY_ok conN_ok) (utr_out1 o L.length c ((k + 1 : Nat) : Int) (L.getD k 0) l undef nilS g) (okTwo (by simpa using hx) (okTwo hce (okTwo hix (okOne hgt))))).mono fun e y he => ?_
          obtain ⟨rfl, ⟨g', h2⟩, h3⟩ := he
          have e0 : trimN L = k + 1 := trimN_uniq hz (.inr (by simpa using hx))
          exact ⟨rfl, ⟨g', by rw [h2, e0]⟩, h3⟩
    · match e, he with
      | none, he => exact ⟨rfl, he⟩
  · rintro ⟨t, h', s⟩ ⟨_, ⟨g', ht⟩, hh⟩
    simp only at ht hh
    subst ht hh
    have hle := trimN_le L
    have hp : okPart 0 (trimN L : Nat) (trimN L : Nat) (L.length : Nat) = true := by unfold okPart; exact decide_eq_true (by omega)
    unfold capOk at hc
    simp only [Bool.or_eq_true, Bool.and_eq_true] at hc
    rcases hc with ⟨h1, h2⟩ | ⟨h1, h2⟩
    · have h2 := Nat.le_of_ble_eq_true h2
      have h1' : c < 4611686018427387904 := blt_iff.1 h1
      refine (goesT_runs (tabY_ok conN_ok) (utr_end o L.length c (trimN L) l undef nilS g') (okTwo h1 (okTwo (by unfold okPart; exact decide_eq_true (by omega)) (okOne (decide_eq_false (by omega)))))).mono fun e y he => ?_
      obtain ⟨rfl, ⟨g2, h2⟩, h3⟩ := he
      refine ⟨.inr rfl, ?_⟩
      rw [h2, h3]
      rfl
    · have h1 := Nat.eq_of_beq_eq_true h1
      have h2 := Nat.eq_of_beq_eq_true h2
      subst h1 h2
      have hlen := hR.len
      refine (goesT_runs (tabY_ok conN_ok) (utr_endg L.length (trimN L) l undef nilS g') (okTwo hp (okTwo (decide_eq_false (by omega)) (okOne (by
        rw [tR_tomb, Nat.ble_eq_true_of_le (by omega)]; rfl))))).mono fun e y he => ?_
      obtain ⟨rfl, ⟨g2, h2⟩, h3⟩ := he
      refine ⟨.inr rfl, ?_⟩
      rw [h2, h3]
      rfl
/-- a row of words, its capacity known or the whole block's -/
def rowC (ty : TypeId) (l : List Value) (o n c : Nat) : Bool := !(tomb ty) && Nat.beq (rt ty) tU && Nat.ble (o + n) l.length && Nat.blt n 4611686018427387904 && capOk o n c && (cutV l o n).all isU && l.all still
theorem rowC_of {ty : TypeId} {l : List Value} {o n c : Nat} (h : rowC ty l o n c = true) : Row l o (cutI l o n) ∧ (cutI l o n).length = n ∧ n < 4611686018427387904 ∧ capOk o n c = true ∧ tomb ty = false ∧ rt ty = tU ∧ ∀ v ∈ l, still v = true := by
  unfold rowC at h
  simp only [Bool.and_eq_true, Bool.not_eq_true'] at h
  obtain ⟨⟨⟨⟨⟨⟨h1, h2⟩, h3⟩, h4⟩, h5⟩, h6⟩, h7⟩ := h
  have h2 := Nat.eq_of_beq_eq_true h2
  have h3 := Nat.le_of_ble_eq_true h3
  have h4 := blt_iff.1 h4
  have hlen : (cutI l o n).length = n := by unfold cutI cutV; simp; omega
  refine ⟨⟨by rw [hlen]; exact h3, by rw [hlen]; exact cutV_words h6, fun x hx => ?_⟩, hlen, h4, h5, h1, h2, List.all_eq_true.1 h7⟩
  unfold cutI at hx
  obtain ⟨v, hv, rfl⟩ := List.mem_map.1 hx
  have := isU_spec (List.all_eq_true.1 h6 v hv)
  exact ⟨this.2.1, this.2.2⟩
theorem utrim_nil : Fits (reckon (tabOf Tryz.prog extY conN true) 100 84 [nilS] []) nilS [] := ⟨by kernel_rfl, by kernel_rfl, by kernel_rfl, by kernel_rfl⟩
def gUtrim : AnsH := fun vals h s =>
  match vals with
  | [.slice none 0 0] => some (nilS, h, s, [])
  | [.slice (some ⟨b, o, none⟩) n c] =>
    match h.blk? b with
    | some x => some (sl b o (trimN (cutI x.1 o n)) (trimN (cutI x.1 o n)), h, s, [(rowC x.2 x.1 o n c, true)])
    | none => none
  | _ => none
theorem gUtrim_ok : AnsHOk 84 gUtrim := by
  intro vals h s v h' s' lg hg hl m B w E hv
  unfold gUtrim at hg
  split at hg
  · cases hg
    refine (fits_calls (tabY_ok conN_ok) utrim_nil (fun x hx => by cases hx) (by rfl) (by rfl) w).mono fun e w' he => ?_
    obtain ⟨E', hb⟩ := clean_emb E he.2
    exact ⟨m, he.1, ⟨Agree.refl _ _, E', hb, Nat.le_refl _, rfl⟩⟩
  · rename_i b o n c
    split at hg
    · rename_i x hx
      cases hg
      obtain ⟨h1, h2, h3, h4, h5, h6, h7⟩ := rowC_of (hl _ (List.mem_singleton.2 rfl))
      have hlt := Hp.blk_lt hx
      have r := utrim_runs (c := c) h1 (by rw [h2]; exact h3) (by rw [h2]; exact h4)
      rw [h2] at r
      have := row_calls (T := tabOf Tryz.prog extY conN true) Tryz.func84 utrim_body (rows1 h7) (vals := [sl 0 o n c]) (fun v hv => by rw [List.mem_singleton.1 hv]; rfl) (by rfl) r E (s := fun _ => b) (fun i _ => hlt) (fitsR1 hx h5 h6 rfl)
      exact this.mono fun e w' he => ⟨m, he.1, he.2⟩
    · cases hg
  · cases hg
end Go.Proofs.YtjkgnbdeklploaaGreatDoor
