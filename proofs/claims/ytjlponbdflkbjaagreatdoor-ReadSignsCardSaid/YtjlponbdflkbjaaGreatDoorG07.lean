/-
  Okl, RunX, RunY, RunZ, TxU, TxA, UuV, UuR, NumN, ConN1, UuW, ConN2
-/
import Derived.Test.YtjlponbdflkbjaaGreatDoorG01
import Derived.Test.YtjlponbdflkbjaaGreatDoorG06
namespace Go.Proofs.YtjlponbdflkbjaaGreatDoor
open Go.KRun
theorem okL1 {a b : Bool} (h : a = b) : okLog [(a, b)] := fun p hp => by rw [List.mem_singleton.1 hp]; exact h
theorem okCons {a b : Bool} {l : Log} (h : a = b) (hl : okLog l) : okLog ((a, b) :: l) := fun p hp => by
  rcases List.mem_cons.1 hp with rfl | hp
  · exact h
  · exact hl p hp
theorem okCs {a b : Bool} {l : Log} : okLog ((a, b) :: l) ↔ a = b ∧ okLog l := ⟨fun h => ⟨h _ (List.mem_cons_self), fun x hx => h x (List.mem_cons_of_mem _ hx)⟩, fun h => okCons h.1 h.2⟩
theorem okNl : okLog [] := fun x hx => by cases hx
end Go.Proofs.YtjlponbdflkbjaaGreatDoor
namespace Go.KRun
open Go.RowKit
/-- temporaries: the first, some of which nothing is known, some that are, the rest -/
def ml (front : List Value) (b : Nat) (g : Nat → Value) (mid : List Value) (n : Nat) (g' : Nat → Value) : List Value := front ++ (tl b g ++ (mid ++ tl n g'))
def GoesM (r : Option (Ex × Lf × Lg)) (a b c n : Nat) (e : Ex) (front mid : List Value) (h : Hp) (cs : Log) : Prop :=
  r.map (fun r => (r.1, r.2.1.1.take a, ((r.2.1.1.drop a).take b).length, ((r.2.1.1.drop a).drop b).take c, (((r.2.1.1.drop a).drop b).drop c).length, r.2.1.2.1, r.2.2.cs)) = some (e, front, b, mid, n, h, cs) ∧
    r.map (fun r => r.2.2.es.map Prod.fst) = r.map (fun r => r.2.2.es.map Prod.snd) ∧ r.map (fun r => r.2.2.bs.map Prod.fst) = r.map (fun r => r.2.2.bs.map Prod.snd)
theorem goesM_some {r : Option (Ex × Lf × Lg)} {a b c n : Nat} {e : Ex} {front mid : List Value} {h : Hp} {cs : Log} (hG : GoesM r a b c n e front mid h cs) (hcs : okLog cs) : ∃ g g' s L, r = some (e, (ml front b g mid n g', h, s), L) ∧ L.ok := by
  obtain ⟨h1, h5, h6⟩ := hG
  cases r with
  | none => cases h1
  | some r =>
    simp only [Option.map_some, Option.some.injEq, Prod.mk.injEq] at h1 h5 h6
    obtain ⟨e', ⟨t', h', s'⟩, L⟩ := r
    simp only at h1 h5 h6
    obtain ⟨h1, h2, h3, h4, h7, h8, h9⟩ := h1
    subst h1 h8
    obtain ⟨g, hg⟩ := tl_of h3
    obtain ⟨g', hg'⟩ := tl_of h7
    refine ⟨g, g', s', L, ?_, by rw [h9]; exact hcs, all_eq _ h5, all_eq _ h6⟩
    unfold ml
    rw [← h2, ← hg, ← h4, ← hg', List.take_append_drop, List.take_append_drop, List.take_append_drop]
theorem goesM_runs {T : Tab} (hT : TabOk T) {N : Nat} {c : Code} {t : List Value} {h h' : Hp} {s s0 : List Dec} {a b k n : Nat} {e : Ex} {front mid : List Value} {cs : Log} (hG : GoesM (evC T N false c (t, h, s) ⟨[], [], []⟩) a b k n e front mid h' cs) (hcs : okLog cs) :
    Runs T c (t, h, s0) fun e' y => e' = e ∧ (∃ g g', y.1 = ml front b g mid n g') ∧ y.2.1 = h' := by
  obtain ⟨g, g', s', L, hr, hL⟩ := goesM_some hG hcs
  refine Runs.script ((Runs.ev hT hr hL).mono fun e2 y he => ?_)
  obtain ⟨rfl, rfl⟩ := he
  exact ⟨rfl, ⟨g, g', rfl⟩, rfl⟩
theorem compact {m : Mp} {B : Nat} {t t' : List Value} {h h' : Hp} {s : List Dec} {a : Act} {w : World} (R : Rel m B (t, h, s) a w) (f : Nat → Nat) (hl : h'.l.length = h'.n)
    (hb : ∀ i x, h'.blk? i = some x → (∀ v ∈ x.1, still v = true) ∧ ∃ y r, h.blk? (f i) = some y ∧ y.2 = x.2 ∧ y.1 = x.1 ++ r)
    (hi : ∀ i j x y, h'.blk? i = some x → h'.blk? j = some y → ro x.2 = false → ro y.2 = false → f i = f j → i = j)
    (ht : t'.map (mv fun i => m (f i)) = t.map (mv m)) (hw : ∀ v ∈ t', lt h'.n v = true) : Rel (fun i => m (f i)) B (t', h', s) a w := by
  have E := R.emb
  refine ⟨by rw [R.tmps]; simp only; rw [ht], R.dfr, ?_, hw⟩
  refine ⟨hl, ?_, ?_, ?_, ?_, ?_, E.base, E.ice, ?_⟩
  · intro b x hx ht
    obtain ⟨q1, y, r, q2, q3, q4⟩ := hb b x hx
    obtain ⟨r0, z, e1, e2, e3⟩ := E.lies (f b) y q2 (by rw [q3]; exact ht)
    rw [q4, List.map_append, still_map (m' := fun i => m (f i)) q1] at e1 e2
    refine ⟨r.map (mv1 m) ++ r0, z, by rw [← e1]; simp; omega, by rw [e2, List.append_assoc], by rw [← q3]; exact e3⟩
  · intro b x hx hr
    obtain ⟨_, y, r, q2, q3, _⟩ := hb b x hx
    exact E.low (f b) y q2 (by rw [q3]; exact hr)
  · intro b x hx ht hr
    obtain ⟨_, y, r, q2, q3, _⟩ := hb b x hx
    exact E.ros (f b) y q2 (by rw [q3]; exact ht) (by rw [q3]; exact hr)
  · intro b b' x x' hx hx' hr hr' he
    obtain ⟨_, y, r, q2, q3, _⟩ := hb b x hx
    obtain ⟨_, y', r', q2', q3', _⟩ := hb b' x' hx'
    exact hi b b' x x' hx hx' hr hr' (E.inj _ _ y y' q2 q2' (by rw [q3]; exact hr) (by rw [q3']; exact hr') he)
  · intro b x hx v hv
    exact still_lt (Nat.lt_of_le_of_lt (Nat.zero_le _) (Hp.blk_lt hx)) ((hb b x hx).1 v hv)
  · intro b x hx ha
    obtain ⟨q1, y, r, q2, q3, q4⟩ := hb b x hx
    obtain ⟨e1, r0, t0, z, e2⟩ := E.abs (f b) y q2 (by rw [q3]; exact ha)
    rw [q3] at e1 e2
    rw [q4, List.map_append, still_map (m' := fun i => m (f i)) q1] at e2
    exact ⟨e1, r.map (mv1 m) ++ r0, t0, z, by rw [e2, List.append_assoc]⟩
/-- the temporaries that are needed, with their blocks' new numbers; the others as the world has them -/
theorem anew {m : Mp} (f : Nat → Nat) {front front' rest : List Value} (h : front'.map (rn f) = front) : (front' ++ rest.map (fun v => Value.iface dead (mv m v))).map (mv fun i => m (f i)) = (front ++ rest).map (mv m) := by
  rw [List.map_append, List.map_append, ← h, List.map_map, List.map_map]
  congr 1
  · exact List.map_congr_left fun v _ => (mv_rn m f v).symm
/-- the memory made small behind a piece of code -/
theorem RunsW.small {T : Tab} {c : Code} {x : Lf} {P : Ex → Lf → Prop} (hr : RunsW T c x P) {P' : Ex → Lf → Prop}
    (hp : ∀ e y, P e y → P' e y ∨ ∃ (front front' rest : List Value) (h h' : Hp) (s : List Dec) (f : Nat → Nat), y = (front ++ rest, h, s) ∧ front'.map (rn f) = front ∧ h'.l.length = h'.n ∧ 0 < h'.n ∧
      (∀ i x, h'.blk? i = some x → (∀ v ∈ x.1, still v = true) ∧ ∃ y r, h.blk? (f i) = some y ∧ y.2 = x.2 ∧ y.1 = x.1 ++ r) ∧
      (∀ i j x y, h'.blk? i = some x → h'.blk? j = some y → ro x.2 = false → ro y.2 = false → f i = f j → i = j) ∧ (∀ v ∈ front', lt h'.n v = true) ∧ ∀ g, P' e (front' ++ tl rest.length g, h', s)) : RunsW T c x P' := by
  intro m B a w R Q hQ
  refine hr m B a w R Q fun e y he m' a' w' R' hb' => ?_
  rcases hp e y he with h1 | ⟨front, front', rest, h, h', s, f, rfl, e1, e2, e3, e4, e5, e6, e7⟩
  · exact hQ e y h1 m' a' w' R' hb'
  · obtain ⟨g, hg⟩ := tl_of (J := rest.map (fun v => Value.iface dead (mv m' v))) (n := rest.length) (by simp)
    refine hQ e _ (e7 g) _ a' w' (compact R' f e2 e4 e5 (by rw [← hg]; exact anew f e1) ?_) hb'
    intro v hv
    rw [← hg] at hv
    rcases List.mem_append.1 hv with hv | hv
    · exact e6 v hv
    · obtain ⟨u, _, rfl⟩ := List.mem_map.1 hv
      simp [lt, lt2, lt1, e3, dead]
/-- a 'for', its memory made small behind each round -/
theorem RunsW.forLoop {T : Tab} {c : Code} {id : Nat} {x : Lf} {P : Lf → Prop} {R : Lf → Prop} (Inv : Nat → Lf → Prop)
    (round : ∀ n x, Inv n x → RunsW T c x fun e y => match e with | none => ∃ n', n' < n ∧ Inv n' y | some none => R y | some (some id') => id' = id ∧ P y) {n : Nat} (h0 : Inv n x) :
    RunsW T (.block id (.loop c)) x fun e y => match e with | none => P y | some none => R y | some (some _) => False := by
  refine RunsW.block (P1 := fun e y => match e with | none => False | some none => R y | some (some id') => id' = id ∧ P y) ?_ (fun y he => he.elim) (fun y he => he) (fun y he => he.2) (fun id' y hid he => absurd he.1 hid)
  refine RunsW.loop Inv (fun n x hI => (round n x hI).mono fun e y he => ?_) h0
  match e, he with
  | none, he => exact he
  | some none, he => exact he
  | some (some id'), he => exact he
theorem goesT_runsW {T : Tab} (hT : TabOk T) {N : Nat} {c : Code} {t : List Value} {h h' : Hp} {s s0 : List Dec} {k n : Nat} {e : Ex} {front : List Value} {cs : Log} (hG : GoesT (evC T N false c (t, h, s) ⟨[], [], []⟩) k n e front h' cs) (hcs : okLog cs) :
    RunsW T c (t, h, s0) fun e' y => e' = e ∧ (∃ g, y.1 = front ++ tl n g) ∧ y.2.1 = h' := (goesT_runs hT hG hcs).w
theorem tl_len (n : Nat) (g : Nat → Value) : (tl n g).length = n := by simp [tl]
/-- the first blocks of a memory kept, and another one -/
def keepK (k b : Nat) (i : Nat) : Nat := if Nat.blt i k = true then i else b
theorem blkK1 {base : List (List Value × TypeId)} {k : Nat} (hk : base.length = k) {y : List Value × TypeId} {i : Nat} {z : List Value × TypeId} (h : (⟨k + 1, y :: base⟩ : Hp).blk? i = some z) : (i < k ∧ (⟨k, base⟩ : Hp).blk? i = some z) ∨ (i = k ∧ z = y) := by
  have hi : i < k + 1 := Hp.blk_lt h
  by_cases h0 : i = k
  · subst h0
    have : (⟨i + 1, y :: base⟩ : Hp).blk? i = some y := by
      unfold Hp.blk?
      rw [if_pos (blt_iff.2 (by show i < i + 1; omega))]
      show (y :: base)[i + 1 - 1 - i]? = some y
      rw [show i + 1 - 1 - i = 0 from by omega]
      rfl
    rw [this] at h
    exact .inr ⟨rfl, (Option.some.inj h).symm⟩
  · refine .inl ⟨by omega, ?_⟩
    unfold Hp.blk? at h ⊢
    rw [if_pos (blt_iff.2 (by show i < k + 1; omega))] at h
    rw [if_pos (blt_iff.2 (by show i < k; omega))]
    have e : k + 1 - 1 - i = (k - 1 - i) + 1 := by omega
    have h' : (y :: base)[k + 1 - 1 - i]? = some z := h
    rw [e, List.getElem?_cons_succ] at h'
    exact h'
/-- behind a round: the first blocks and one more are kept -/
theorem RunsW.kept {T : Tab} {c : Code} {x0 : Lf} {ex : Ex} {front front' : List Value} {n k b : Nat} {h : Hp} {base : List (List Value × TypeId)} {y : List Value × TypeId} (hr : RunsW T c x0 fun e z => e = ex ∧ (∃ g, z.1 = front ++ tl n g) ∧ z.2.1 = h)
    (hk : base.length = k) (hf : front'.map (rn (keepK k b)) = front) (hx : ∀ i x, (⟨k, base⟩ : Hp).blk? i = some x → h.blk? i = some x ∧ ∀ v ∈ x.1, still v = true) (hy : h.blk? b = some y) (hb : k ≤ b) (sy : ∀ v ∈ y.1, still v = true) (hw : ∀ v ∈ front', lt (k + 1) v = true) :
    RunsW T c x0 fun e z => e = ex ∧ (∃ g, z.1 = front' ++ tl n g) ∧ z.2.1 = ⟨k + 1, y :: base⟩ := by
  refine hr.small fun e z he => .inr ?_
  obtain ⟨rfl, ⟨g, h1⟩, h2⟩ := he
  obtain ⟨t, h', s⟩ := z
  simp only at h1 h2
  subst h1 h2
  refine ⟨front, front', tl n g, h', ⟨k + 1, y :: base⟩, s, keepK k b, rfl, hf, by simp [hk], Nat.succ_pos _, fun i z hz => ?_, fun i j u v hi hj _ _ hij => ?_, hw, fun g' => ⟨rfl, ⟨g', by rw [tl_len]⟩, rfl⟩⟩
  · rcases blkK1 hk hz with ⟨hi, hz'⟩ | ⟨rfl, rfl⟩
    · obtain ⟨q1, q2⟩ := hx i z hz'
      exact ⟨q2, z, [], by unfold keepK; rw [if_pos (blt_iff.2 hi)]; exact q1, rfl, by simp⟩
    · exact ⟨sy, z, [], by unfold keepK; rw [if_neg (by rw [blt_iff]; omega)]; exact hy, rfl, by simp⟩
  · unfold keepK at hij
    rcases blkK1 hk hi with ⟨h1, _⟩ | ⟨rfl, _⟩ <;> rcases blkK1 hk hj with ⟨h2, _⟩ | ⟨rfl, _⟩
    · rw [if_pos (blt_iff.2 h1), if_pos (blt_iff.2 h2)] at hij; exact hij
    · rw [if_pos (blt_iff.2 h1), if_neg (by rw [blt_iff]; omega)] at hij; omega
    · rw [if_pos (blt_iff.2 h2), if_neg (by rw [blt_iff]; omega)] at hij; omega
    · rfl
/-- a call with rows whose answer holds no address, and that keeps no block -/
theorem row_calls0 {T : Tab} {f : Nat} {F : Func} {c : Code} (hF : T.P.funcs[f]? = some F) (hc : F.body = some c) {h0 : Hp} (hr : h0.rows) {vals : List Value} (hvals : ∀ v ∈ vals, lt h0.n v = true) {v : Value} (hv : lt 0 v = true)
    (hrun : RunsW T c (vals ++ List.replicate (F.ntmps - vals.length) undef, h0, []) fun e y => (e = none ∨ e = some none) ∧ resS T.P F y.1 y.2.1 = some v)
    {m : Mp} {B : Nat} {h : Hp} {w : World} (E : Emb m B h w) {s : Nat → Nat} (hf : h0.fits s h) :
    Calls T.P f ((vals.map (rn s)).map (mv m)).toArray w fun e w' => ∃ m', e = .returned (mv m' v) ∧ Came m B h w v h m' w' := by
  have E0 := E.small hr hf
  have ev : (vals.map (rn s)).map (mv m) = vals.map (mv fun i => m (s i)) := by
    rw [List.map_map]
    exact List.map_congr_left fun y _ => mv_rn m s y
  rw [ev]
  refine calls_of_wp hF hc ?_
  have R : Rel (fun i => m (s i)) w.heap.size (vals ++ List.replicate (F.ntmps - vals.length) undef, h0, []) { tmps := (vals.map (mv fun i => m (s i))).toArray ++ Array.replicate (F.ntmps - (vals.map (mv fun i => m (s i))).toArray.size) undef, defers := [] } w := by
    refine ⟨?_, rfl, E0, ?_⟩
    · simp [mv_undef]
    · intro y hy
      rcases List.mem_append.1 hy with hy | hy
      · exact hvals y hy
      · rw [List.eq_of_mem_replicate hy]; simp [undef, lt]
  refine hrun _ _ _ w R _ fun e y he m1 a' w' k2 k3 => ?_
  obtain ⟨hex, hres⟩ := he
  obtain ⟨r1, r2⟩ := resS_run k2.emb k2.wf hres
  rw [← k2.tmps, mv_still hv] at r1
  have td : Tidy w w' := ⟨k3, fun k h1 h2 => k2.emb.ice k h1 h2⟩
  obtain ⟨E', hb⟩ := clean_emb E td
  have post : a'.defers = [] ∧ ∃ v', (results F a'.tmps).run T.P w' = .ok v' w' ∧ ∃ m', Ending.returned v' = .returned (mv m' v) ∧ Came m B h w v h m' w' :=
    ⟨k2.dfr, _, r1, m, by rw [mv_still hv], ⟨Agree.refl _ _, E', hb, Nat.le_refl _, lt_mono (Nat.zero_le _) hv⟩⟩
  rcases hex with rfl | rfl <;> exact post
/-- a call that keeps one block of its own, whichever it is -/
theorem row_calls2 {T : Tab} {f : Nat} {F : Func} {c : Code} (hF : T.P.funcs[f]? = some F) (hc : F.body = some c) {h0 : Hp} (hr : h0.rows) {vals : List Value} (hvals : ∀ v ∈ vals, lt h0.n v = true) {v : Nat → Value}
    {cs : List Value} {ty : TypeId} (hcs : ∀ u ∈ cs, lt1 0 u = true) (hty : ro ty = false)
    (hrun : RunsW T c (vals ++ List.replicate (F.ntmps - vals.length) undef, h0, []) fun e y => (e = none ∨ e = some none) ∧ ∃ k, resS T.P F y.1 y.2.1 = some (v k) ∧ ∃ r, y.2.1.blk? k = some (cs ++ r, ty))
    (hv0 : ∀ k, oc [k] (v k) = true)
    {m : Mp} {B : Nat} {h : Hp} {w : World} (E : Emb m B h w) {s : Nat → Nat} (hf : h0.fits s h) (hv1 : ∀ k, rn (fun _ => h.n) (v k) = v h.n) :
    Calls T.P f ((vals.map (rn s)).map (mv m)).toArray w fun e w' => ∃ m', e = .returned (mv m' (v h.n)) ∧ Came m B h w (v h.n) (h.push cs ty) m' w' := by
  have E0 := E.small hr hf
  have ev : (vals.map (rn s)).map (mv m) = vals.map (mv fun i => m (s i)) := by
    rw [List.map_map]
    exact List.map_congr_left fun y _ => mv_rn m s y
  rw [ev]
  refine calls_of_wp hF hc ?_
  have R : Rel (fun i => m (s i)) w.heap.size (vals ++ List.replicate (F.ntmps - vals.length) undef, h0, []) { tmps := (vals.map (mv fun i => m (s i))).toArray ++ Array.replicate (F.ntmps - (vals.map (mv fun i => m (s i))).toArray.size) undef, defers := [] } w := by
    refine ⟨?_, rfl, E0, ?_⟩
    · simp [mv_undef]
    · intro y hy
      rcases List.mem_append.1 hy with hy | hy
      · exact hvals y hy
      · rw [List.eq_of_mem_replicate hy]; simp [undef, lt]
  refine hrun _ _ _ w R _ fun e y he m1 a' w' k2 k3 => ?_
  obtain ⟨hex, k, hres, r, hblk⟩ := he
  obtain ⟨r1, r2⟩ := resS_run k2.emb k2.wf hres
  rw [← k2.tmps] at r1
  have td : Tidy w w' := ⟨k3, fun k h1 h2 => k2.emb.ice k h1 h2⟩
  obtain ⟨E', hb⟩ := clean_emb E td
  have hlow : w.heap.size ≤ (m1 k).1 := k2.emb.low k _ hblk hty
  have hlie : lie w' (m1 k) (cs.map (mv1 m)) ty := by
    obtain ⟨r', z, l0, l1, l2⟩ := k2.emb.lies k _ hblk (tomb_ro hty)
    have e : cs.map (mv1 m1) = cs.map (mv1 m) := map_still hcs
    simp only [List.map_append] at l0 l1
    refine ⟨r.map (mv1 m1) ++ r', z, ?_, ?_, l2⟩
    · simp at l0 ⊢; omega
    · rw [← e, l1, List.append_assoc]
  have Ea := E'.adopt cs ty hty (fun u hu => lt1_mono (Nat.zero_le _) (hcs u hu)) hlie (Nat.le_trans E.base hlow) (fun b x hbx hx heq => by
    have := E.here hbx (tomb_ro hx)
    omega)
  have e1 : mv m1 (v k) = mv (upd m h.n (m1 k)) (v h.n) := by
    rw [← hv1 k, mv_rn]
    refine mv_on (fun b hb => ?_) (hv0 k)
    rw [List.mem_singleton.1 hb]
    simp [upd]
  rw [e1] at r1
  have hlt : lt (h.n + 1) (v h.n) = true := by rw [← hv1 k]; exact oc_ren (bs := [k]) (fun b hb => by show h.n < h.n + 1; omega) (hv0 k)
  have post : a'.defers = [] ∧ ∃ v', (results F a'.tmps).run T.P w' = .ok v' w' ∧ ∃ m', Ending.returned v' = .returned (mv m' (v h.n)) ∧ Came m B h w (v h.n) (h.push cs ty) m' w' :=
    ⟨k2.dfr, _, r1, upd m h.n (m1 k), rfl, ⟨upd_agree _ _ _, Ea, hb, Nat.le_succ _, hlt⟩⟩
  rcases hex with rfl | rfl <;> exact post
end Go.KRun
namespace Go.Proofs.YtjlponbdflkbjaaGreatDoor.Na
open Go.KRun
set_option maxRecDepth 100000
theorem okN9 : okLog [] := fun _ h => by cases h
/-- a string, by its letters -/
def bS (l : List UInt8) : Value := .string ⟨⟨l⟩⟩
theorem bs_eq (l l' : List UInt8) : ((⟨⟨l⟩⟩ : ByteArray) == ⟨⟨l'⟩⟩) = decide (l = l') := by
  rw [beq_toListBytes, ByteArray.toList_eq, ByteArray.toList_eq]
  show (l == l') = decide (l = l')
  by_cases h : l = l'
  · rw [decide_eq_true h]; simpa using h
  · rw [decide_eq_false h]; simpa using h
def tlP (F : Func) : Code := cFst (cBody F)
def tlL (F : Func) : Code := cIn (cIn (cFst (cSnd (cBody F))))
def tlE (F : Func) : Code := cSnd (cSnd (cBody F))
theorem tl_body : Tryz.f101.body = some (seqs [tlP Tryz.f101] (.seq (.block 0 (.loop (tlL Tryz.f101))) (tlE Tryz.f101))) := by kernel_rfl
def tlF (l : List UInt8) (c : Int) : List Value := [bS l, .int .u8 c, undef, undef, bS []]
theorem tl_pre (l : List UInt8) (c : Int) : GoesT (evL (tabOf Tryz.prog extY conN true) 100 [tlP Tryz.f101] ([bS l, .int .u8 c] ++ List.replicate 15 undef, ⟨0, []⟩, []) ⟨[], [], []⟩) 5 12 none (tlF l c) ⟨0, []⟩ [] := ⟨by kernel_rfl, by kernel_rfl, by kernel_rfl⟩
theorem tl_go (x : UInt8) (l : List UInt8) (c : Int) (g : Nat → Value) : GoesT (evC (tabOf Tryz.prog extY conN true) 100 false (tlL Tryz.f101) (tlF (x :: l) c ++ tl 12 g, ⟨0, []⟩, [cmp true, cmp true, sam true]) ⟨[], [], []⟩) 5 12 none (tlF l c) ⟨0, []⟩ [(decide ((0 : Int) ≤ 1 ∧ (1 : Int) ≤ ((x :: l).length : Nat)), true), (((x.toNat : Nat) : Int) == c, true), (decide ((0 : Int) ≤ 0 ∧ 0 < (x :: l).length), true), (decide ((((x :: l).length : Nat) : Int) > 0), true)] := ⟨by kernel_rfl, by kernel_rfl, by kernel_rfl⟩
theorem tl_out (x : UInt8) (l : List UInt8) (c : Int) (g : Nat → Value) : GoesT (evC (tabOf Tryz.prog extY conN true) 100 false (tlL Tryz.f101) (tlF (x :: l) c ++ tl 12 g, ⟨0, []⟩, [cmp true, cmp false]) ⟨[], [], []⟩) 5 12 (some (some 0)) (tlF (x :: l) c) ⟨0, []⟩ [(((x.toNat : Nat) : Int) == c, false), (decide ((0 : Int) ≤ 0 ∧ 0 < (x :: l).length), true), (decide ((((x :: l).length : Nat) : Int) > 0), true)] := ⟨by kernel_rfl, by kernel_rfl, by kernel_rfl⟩
theorem tl_nil (c : Int) (g : Nat → Value) : GoesT (evC (tabOf Tryz.prog extY conN true) 100 false (tlL Tryz.f101) (tlF [] c ++ tl 12 g, ⟨0, []⟩, [cmp false]) ⟨[], [], []⟩) 5 12 (some (some 0)) (tlF [] c) ⟨0, []⟩ [(decide (((0 : Nat) : Int) > 0), false)] := ⟨by kernel_rfl, by kernel_rfl, by kernel_rfl⟩
theorem tl_fin (l : List UInt8) (c : Int) (g : Nat → Value) : GoesT (evC (tabOf Tryz.prog extY conN true) 100 false (tlE Tryz.f101) (tlF l c ++ tl 12 g, ⟨0, []⟩, []) ⟨[], [], []⟩) 5 12 (some none) [bS l, .int .u8 c, undef, undef, bS l] ⟨0, []⟩ [] := ⟨by kernel_rfl, by kernel_rfl, by kernel_rfl⟩
/-- a string's letters behind those that are c -/
def trL (c : Int) (l : List UInt8) : List UInt8 := l.dropWhile fun x => ((x.toNat : Nat) : Int) == c
theorem tl_loop (c : Int) (L : List UInt8) (n : Nat) (x : Lf) (h : ∃ (l : List UInt8) (g : Nat → Value), x.1 = tlF l c ++ tl 12 g ∧ x.2.1 = ⟨0, []⟩ ∧ trL c l = trL c L ∧ n = l.length) : Runs (tabOf Tryz.prog extY conN true) (tlL Tryz.f101) x fun e y => match e with | none => ∃ n', n' < n ∧ ∃ (l : List UInt8) (g : Nat → Value), y.1 = tlF l c ++ tl 12 g ∧ y.2.1 = ⟨0, []⟩ ∧ trL c l = trL c L ∧ n' = l.length | some none => False | some (some id') => id' = 0 ∧ ∃ g : Nat → Value, y.1 = tlF (trL c L) c ++ tl 12 g ∧ y.2.1 = ⟨0, []⟩ := by
  obtain ⟨l, g, e1, e2, h1, h2⟩ := h
  obtain ⟨t, hh, s⟩ := x
  have e1 : t = _ := e1
  have e2 : hh = _ := e2
  subst e1 e2
  have T := tabY_ok conN_ok
  cases l with
  | nil =>
    refine (goesT_runs T (tl_nil c g) (okL1 (by decide))).mono fun e z he => ?_
    obtain ⟨rfl, ⟨g', z1⟩, z2⟩ := he
    have : trL c L = [] := h1.symm
    rw [this]
    exact ⟨rfl, g', z1, z2⟩
  | cons x l =>
    by_cases hx : ((x.toNat : Nat) : Int) = c
    · refine (goesT_runs T (tl_go x l c g) (okCons (decide_eq_true (by rw [List.length_cons]; omega)) (okCons (by simpa using hx) (okCons (decide_eq_true (by rw [List.length_cons]; omega)) (okL1 (decide_eq_true (by rw [List.length_cons]; omega))))))).mono fun e z he => ?_
      obtain ⟨rfl, ⟨g', z1⟩, z2⟩ := he
      refine ⟨l.length, by rw [h2, List.length_cons]; omega, l, g', z1, z2, ?_, rfl⟩
      rw [← h1]
      unfold trL
      rw [List.dropWhile_cons_of_pos (by simpa using hx)]
    · refine (goesT_runs T (tl_out x l c g) (okCons (by simpa using hx) (okCons (decide_eq_true (by rw [List.length_cons]; omega)) (okL1 (decide_eq_true (by rw [List.length_cons]; omega)))))).mono fun e z he => ?_
      obtain ⟨rfl, ⟨g', z1⟩, z2⟩ := he
      have : trL c L = x :: l := by
        rw [← h1]
        unfold trL
        rw [List.dropWhile_cons_of_neg (by simpa using hx)]
      rw [this]
      exact ⟨rfl, g', z1, z2⟩
theorem tlb_calls (l : List UInt8) (c : Int) (w : World) : Calls Tryz.prog 101 #[bS l, .int .u8 c] w fun r w' => r = .returned (bS (trL c l)) ∧ Tidy w w' := by
  have hT := tabY_ok conN_ok
  refine calls_of_runs (T := tabOf Tryz.prog extY conN true) Tryz.func101 tl_body (by rfl) (by rfl) ?_ w
  refine goesT_list hT (tl_pre l c) okN9 fun g => ?_
  refine Runs.seq (P1 := fun e y => e = none ∧ ∃ g : Nat → Value, y.1 = tlF (trL c l) c ++ tl 12 g ∧ y.2.1 = ⟨0, []⟩) ?_ ?_ (fun e y he => by cases he.1)
  · refine (Runs.forLoop (R := fun _ => False) (P := fun y => ∃ g : Nat → Value, y.1 = tlF (trL c l) c ++ tl 12 g ∧ y.2.1 = ⟨0, []⟩) (fun n x => ∃ (l' : List UInt8) (g : Nat → Value), x.1 = tlF l' c ++ tl 12 g ∧ x.2.1 = ⟨0, []⟩ ∧ trL c l' = trL c l ∧ n = l'.length) (tl_loop c l) (n := l.length) ⟨l, g, rfl, rfl, rfl, rfl⟩).mono fun e z hz => ?_
    match e, hz with
    | none, hz => exact ⟨rfl, hz⟩
  · intro y he
    obtain ⟨_, g', e1, e2⟩ := he
    obtain ⟨t, hh, s⟩ := y
    have e1 : t = _ := e1
    have e2 : hh = _ := e2
    subst e1 e2
    refine (goesT_runs hT (tl_fin (trL c l) c g') okN9).mono fun e z hz => ?_
    obtain ⟨rfl, ⟨g2, z1⟩, z2⟩ := hz
    exact ⟨.inr rfl, by rw [z1, z2]; rfl⟩
def gTlb : Ans := fun vals s =>
  match vals with
  | [.string b, .int .u8 c] => some (bS (trL c b.data.toList), s, [])
  | _ => none
theorem gTlb_ok : AnsOk 101 gTlb := by
  intro vals s v s' lg h hl w
  unfold gTlb at h
  split at h
  · cases h
    exact tlb_calls _ _ w
  · cases h
def conTl : Con := alt 101 gTlb conN
theorem conTl_ok : ConOk conTl := alt_ok Tryz.func101 rfl gTlb_ok conN_ok
theorem tr_e (l : List UInt8) : Fits (reckon (tabOf Tryz.prog extY conTl true) 100 71 [bS l, bS [48]] [sam true]) (bS l) [((⟨⟨l⟩⟩ : ByteArray) == ⟨⟨[]⟩⟩, true)] := ⟨by kernel_rfl, by kernel_rfl, by kernel_rfl, by kernel_rfl⟩
theorem tr_n (l : List UInt8) : Fits (reckon (tabOf Tryz.prog extY conTl true) 100 71 [bS l, bS [48]] [sam false]) (bS (trL 48 l)) [(true, true), (true, true), ((⟨⟨l⟩⟩ : ByteArray) == ⟨⟨[]⟩⟩, false)] := ⟨by kernel_rfl, by kernel_rfl, by kernel_rfl, by kernel_rfl⟩
/-- what is left of a string behind its noughts -/
def gTrl : Ans := fun vals s =>
  match vals with
  | [.string b, .string ⟨⟨[c]⟩⟩] => some (bS (trL 48 b.data.toList), s, [(decide (c = 48), true)])
  | _ => none
theorem gTrl_ok : AnsOk 71 gTrl := by
  intro vals s v s' lg h hl w
  unfold gTrl at h
  split at h
  · rename_i b c
    cases h
    have hc := of_decide_eq_true (hl _ (List.mem_singleton.2 rfl))
    subst hc
    by_cases hn : b.data.toList = []
    · have := fits_calls (tabY_ok conTl_ok) (tr_e b.data.toList) (okL1 ((bs_eq _ _).trans (decide_eq_true hn))) (by rfl) (by rfl) w
      rw [hn] at this ⊢
      have hb : b = ⟨⟨[]⟩⟩ := by
        apply ByteArray.ext
        apply Array.ext'
        exact hn
      rw [hb]
      exact this
    · exact fits_calls (tabY_ok conTl_ok) (tr_n b.data.toList) (okCons rfl (okCons rfl (okL1 ((bs_eq _ _).trans (decide_eq_false hn))))) (by rfl) (by rfl) w
  · cases h
def uu (n : Int) : Value := .int .u32 n
def inR (i : Int) (n : Nat) : Bool × Bool := (decide (0 ≤ i ∧ i < n), true)
def celR (l : List Value) (o : Nat) (i x : Int) : Bool × Bool := (cellIs (l[o + i.toNat * 1]?) (uu x), true)
end Go.Proofs.YtjlponbdflkbjaaGreatDoor.Na
namespace Go.Nt
/-- how many are left without noughts at the end -/
def trimN : List Int → Nat
  | [] => 0
  | x :: r => if trimN r = 0 then (if x = 0 then 0 else 1) else trimN r + 1
theorem trimN_le : ∀ L : List Int, trimN L ≤ L.length
  | [] => Nat.le_refl _
  | x :: r => by
    have := trimN_le r
    unfold trimN
    split
    · split <;> simp
    · simp; omega
theorem trimN_high : ∀ (L : List Int) (i : Nat), trimN L ≤ i → L.getD i 0 = 0
  | [], i, _ => by simp
  | x :: r, i, h => by
    unfold trimN at h
    cases i with
    | zero =>
      split at h
      · split at h
        · rename_i h1; simp [h1]
        · omega
      · omega
    | succ i =>
      have := trimN_high r i (by split at h <;> (try split at h) <;> omega)
      simpa using this
theorem trimN_top : ∀ L : List Int, trimN L = 0 ∨ L.getD (trimN L - 1) 0 ≠ 0
  | [] => .inl rfl
  | x :: r => by
    have ih := trimN_top r
    unfold trimN
    split
    · split
      · exact .inl rfl
      · rename_i h; exact .inr (by simpa using h)
    · rename_i h
      rcases ih with ih | ih
      · exact absurd ih h
      · refine .inr ?_
        obtain ⟨k, hk⟩ : ∃ k, trimN r = k + 1 := ⟨trimN r - 1, by omega⟩
        rw [hk] at ih ⊢
        simpa using ih
theorem trimN_uniq {L : List Int} {k : Nat} (h1 : ∀ i, k ≤ i → L.getD i 0 = 0) (h2 : k = 0 ∨ L.getD (k - 1) 0 ≠ 0) : trimN L = k := by
  rcases Nat.lt_trichotomy (trimN L) k with h | h | h
  · rcases h2 with h2 | h2
    · omega
    · exact absurd (trimN_high L (k - 1) (by omega)) h2
  · exact h
  · rcases trimN_top L with h3 | h3
    · omega
    · exact absurd (h1 (trimN L - 1) (by omega)) h3
/-- from the highest down -/
def topCmp (L M : List Int) : Nat → Int
  | 0 => 0
  | k + 1 => if L.getD k 0 = M.getD k 0 then topCmp L M k else if L.getD k 0 < M.getD k 0 then -1 else 1
def cmpL (L M : List Int) : Int := if L.length = M.length then topCmp L M L.length else if L.length < M.length then -1 else 1
end Go.Nt
namespace Go.Proofs.YtjlponbdflkbjaaGreatDoor
open Go.KRun Go.Nt
set_option maxRecDepth 100000
/-- words of 32 bits; the type of such a row's block, only read -/
def wU (L : List Int) : List Value := L.map (Value.int .u32)
def tU : TypeId := 104
def tR : TypeId := 104 + dead
theorem tR_ro : ro tR = true := by kernel_rfl
theorem tR_ab : ab tR = false := by kernel_rfl
theorem tR_tomb : tomb tR = false := by kernel_rfl
theorem tR_rt : rt tR = tU := by kernel_rfl
def sl (b o n c : Nat) : Value := .slice (some ⟨b, o, none⟩) n c
def nilS : Value := .slice none 0 0
def nPre (F : Func) : List Code := [cFst (cBody F)]
def nLoop (F : Func) : Code := cIn (cIn (cFst (cSnd (cBody F))))
def nEnd (F : Func) : Code := cSnd (cSnd (cBody F))
theorem trim_body : Tryz.f112.body = some (seqs (nPre Tryz.f112) (.seq (.block 0 (.loop (nLoop Tryz.f112))) (nEnd Tryz.f112))) := by kernel_rfl
theorem trim_pre (v : Value) (h : Hp) : GoesT (evL (tabOf Tryz.prog extY conN true) 100 (nPre Tryz.f112) ([v] ++ List.replicate 20 undef, h, []) ⟨[], [], []⟩) 3 18 none [v, undef, nilS] h [] := ⟨by kernel_rfl, by kernel_rfl, by kernel_rfl⟩
def n1 (n : Nat) : Int := IntKind.i64.wrap ((n : Int) - 1)
theorem trim_go (o n c : Nat) (x : Int) (l : List Value) (j1 j2 : Value) (g : Nat → Value) : GoesE (evC (tabOf Tryz.prog extY conN true) 100 false (nLoop Tryz.f112) ([sl 0 o n c, j1, j2] ++ tl 18 g, ⟨1, [(l, tR)]⟩, [cmp true, at_, val (.int .u32 x), cmp true, num 0]) ⟨[], [], []⟩) 3 18 none
    [sl 0 o (n1 n).toNat c, j1, j2] ⟨1, [(l, tR)]⟩ [(smallC c, true), (okPart 0 (n1 n) c c, true), (decide ((c : Int) = 0 ∧ (0 : Int) ≠ 0), false), (x == 0, true), (cellIs (l[o + (n1 n).toNat * 1]?) (.int .u32 x), true), (decide (0 ≤ n1 n ∧ n1 n < n), true), (decide ((n : Int) > 0), true)] := by unfold GoesE; kernel_rfl
theorem trim_out0 (j1 j2 : Value) (p : Option Addr) (n c : Nat) (h : Hp) (g : Nat → Value) : GoesE (evC (tabOf Tryz.prog extY conN true) 100 false (nLoop Tryz.f112) ([.slice p n c, j1, j2] ++ tl 18 g, h, [cmp false]) ⟨[], [], []⟩) 3 18 (some (some 0))
    [.slice p n c, j1, j2] h [(decide ((n : Int) > 0), false)] := by unfold GoesE; kernel_rfl
theorem trim_out1 (o n c : Nat) (x : Int) (l : List Value) (j1 j2 : Value) (g : Nat → Value) : GoesE (evC (tabOf Tryz.prog extY conN true) 100 false (nLoop Tryz.f112) ([sl 0 o n c, j1, j2] ++ tl 18 g, ⟨1, [(l, tR)]⟩, [cmp true, at_, val (.int .u32 x), cmp false]) ⟨[], [], []⟩) 3 18 (some (some 0))
    [sl 0 o n c, j1, j2] ⟨1, [(l, tR)]⟩ [(x == 0, false), (cellIs (l[o + (n1 n).toNat * 1]?) (.int .u32 x), true), (decide (0 ≤ n1 n ∧ n1 n < n), true), (decide ((n : Int) > 0), true)] := by unfold GoesE; kernel_rfl
theorem trim_end (v j1 j2 : Value) (h : Hp) (g : Nat → Value) : GoesT (evC (tabOf Tryz.prog extY conN true) 100 false (nEnd Tryz.f112) ([v, j1, j2] ++ tl 18 g, h, []) ⟨[], [], []⟩) 3 18 (some none) [v, j1, v] h [] := ⟨by kernel_rfl, by kernel_rfl, by kernel_rfl⟩
/-! ### rows of words in a memory -/
def intOf : Value → Int
  | .int _ n => n
  | _ => 0
def isU : Value → Bool
  | .int .u32 n => decide (0 ≤ n ∧ n < 4294967296)
  | _ => false
theorem isU_spec {v : Value} (h : isU v = true) : v = .int .u32 (intOf v) ∧ 0 ≤ intOf v ∧ intOf v < 4294967296 := by
  unfold isU at h
  split at h
  · simp only [decide_eq_true_eq] at h
    exact ⟨rfl, h.1, h.2⟩
  · cases h
def cutV (l : List Value) (o n : Nat) : List Value := (l.drop o).take n
def cutI (l : List Value) (o n : Nat) : List Int := (cutV l o n).map intOf
/-- a row of words, its capacity known -/
def rowOk (ty : TypeId) (l : List Value) (o n c : Nat) : Bool := !(tomb ty) && Nat.beq (rt ty) tU && Nat.ble (o + n) l.length && Nat.ble n c && smallC c && (cutV l o n).all isU && l.all still
theorem cutV_words {l : List Value} {o n : Nat} (h : ((cutV l o n).all isU) = true) : cutV l o n = wU (cutI l o n) := by
  unfold wU cutI
  rw [List.map_map]
  refine (List.map_id' _).symm.trans (List.map_congr_left fun v hv => ?_)
  exact (isU_spec (List.all_eq_true.1 h v hv)).1
/-- what is needed of a row in the smallest memory -/
structure Row (l : List Value) (o : Nat) (L : List Int) : Prop where
  len : o + L.length ≤ l.length
  cut : cutV l o L.length = wU L
  rng : ∀ x ∈ L, 0 ≤ x ∧ x < 4294967296
theorem Row.cell {l : List Value} {o : Nat} {L : List Int} (h : Row l o L) {k : Nat} (hk : k < L.length) : l[o + k]? = some (.int .u32 (L.getD k 0)) := by
  have e : (cutV l o L.length)[k]? = (wU L)[k]? := by rw [h.cut]
  unfold cutV wU at e
  rw [List.getElem?_take, if_pos hk, List.getElem?_drop, List.getElem?_map] at e
  rw [e, List.getElem?_eq_getElem hk]
  simp [List.getD, List.getElem?_eq_getElem hk]
theorem row_of {ty : TypeId} {l : List Value} {o n c : Nat} (h : rowOk ty l o n c = true) : Row l o (cutI l o n) ∧ (cutI l o n).length = n ∧ n ≤ c ∧ smallC c = true ∧ tomb ty = false ∧ rt ty = tU ∧ ∀ v ∈ l, still v = true := by
  unfold rowOk at h
  simp only [Bool.and_eq_true, Bool.not_eq_true'] at h
  obtain ⟨⟨⟨⟨⟨⟨h1, h2⟩, h3⟩, h4⟩, h5⟩, h6⟩, h7⟩ := h
  have h2 := Nat.eq_of_beq_eq_true h2
  have h3 := Nat.le_of_ble_eq_true h3
  have h4 := Nat.le_of_ble_eq_true h4
  have hlen : (cutI l o n).length = n := by unfold cutI cutV; simp; omega
  refine ⟨⟨by rw [hlen]; exact h3, by rw [hlen]; exact cutV_words h6, fun x hx => ?_⟩, hlen, h4, h5, h1, h2, List.all_eq_true.1 h7⟩
  unfold cutI at hx
  obtain ⟨v, hv, rfl⟩ := List.mem_map.1 hx
  have := isU_spec (List.all_eq_true.1 h6 v hv)
  exact ⟨this.2.1, this.2.2⟩
/-! ### trim -/
theorem trim_runs {l : List Value} {o c : Nat} {L : List Int} (hR : Row l o L) (hc : smallC c = true) (hn : L.length ≤ c) :
    Runs (tabOf Tryz.prog extY conN true) (seqs (nPre Tryz.f112) (.seq (.block 0 (.loop (nLoop Tryz.f112))) (nEnd Tryz.f112))) ([sl 0 o L.length c] ++ List.replicate 20 undef, ⟨1, [(l, tR)]⟩, []) fun e y => (e = none ∨ e = some none) ∧ resS Tryz.prog Tryz.f112 y.1 y.2.1 = some (sl 0 o (trimN L) c) := by
  have hc' : c < 4611686018427387904 := blt_iff.1 hc
  refine goesT_list (tabY_ok conN_ok) (trim_pre _ _) (fun x hx => by cases hx) fun g => ?_
  refine Runs.seq (P1 := fun e y => e = none ∧ (∃ g, y.1 = [sl 0 o (trimN L) c, undef, nilS] ++ tl 18 g) ∧ y.2.1 = ⟨1, [(l, tR)]⟩) ?_ ?_ (fun e y he => by cases he.1)
  · refine (Runs.forLoop (P := fun y => (∃ g, y.1 = [sl 0 o (trimN L) c, undef, nilS] ++ tl 18 g) ∧ y.2.1 = ⟨1, [(l, tR)]⟩) (R := fun _ => False) (fun n y => (∃ g, y.1 = [sl 0 o n c, undef, nilS] ++ tl 18 g) ∧ y.2.1 = ⟨1, [(l, tR)]⟩ ∧ n ≤ L.length ∧ ∀ i, n ≤ i → L.getD i 0 = 0) ?_ (n := L.length) ⟨⟨g, rfl⟩, rfl, Nat.le_refl _, fun i hi => by simp [List.getD, List.getElem?_eq_none hi]⟩).mono fun e y he => ?_
    · rintro n ⟨t, h', s⟩ ⟨⟨g, ht⟩, hh, hle, hz⟩
      simp only at ht hh
      subst ht hh
      cases n with
      | zero =>
        refine (goesT_runs (tabY_ok conN_ok) (trim_out0 undef nilS (some ⟨0, o, none⟩) 0 c _ g).t (okOne (by rfl))).mono fun e y he => ?_
        obtain ⟨rfl, ⟨g', h2⟩, h3⟩ := he
        have e0 : trimN L = 0 := trimN_uniq hz (.inl rfl)
        exact ⟨rfl, ⟨g', by rw [h2, e0]; rfl⟩, h3⟩
      | succ k =>
        have ek : n1 (k + 1) = (k : Int) := by
          unfold n1
          rw [wrapI (by omega) (by omega)]
          omega
        have hcell := hR.cell (k := k) (by omega)
        have hce : cellIs (l[o + (n1 (k + 1)).toNat * 1]?) (.int .u32 (L.getD k 0)) = true := by
          rw [ek, Int.toNat_natCast, Nat.mul_one, hcell]
          simp [cellIs]
        have hix : decide (0 ≤ n1 (k + 1) ∧ n1 (k + 1) < ((k + 1 : Nat) : Int)) = true := by rw [ek]; exact decide_eq_true (by omega)
        have hgt : decide (((k + 1 : Nat) : Int) > 0) = true := decide_eq_true (by omega)
        by_cases hx : L.getD k 0 = 0
        · refine (goesT_runs (tabY_ok conN_ok) (trim_go o (k + 1) c (L.getD k 0) l undef nilS g).t (okTwo hc (okTwo (by
            unfold okPart
            rw [ek]
            exact decide_eq_true (by omega)) (okTwo (decide_eq_false (by omega)) (okTwo (by rw [hx]; rfl) (okTwo hce (okTwo hix (okOne hgt)))))))).mono fun e y he => ?_
          obtain ⟨rfl, ⟨g', h2⟩, h3⟩ := he
          rw [ek, Int.toNat_natCast] at h2
          refine ⟨k, by omega, ⟨g', h2⟩, h3, by omega, fun i hi => ?_⟩
          rcases Nat.lt_or_ge k i with h | h
          · exact hz i h
          · have : i = k := by omega
            rw [this]; exact hx
        · refine (goesT_runs (tabY_ok conN_ok) (trim_out1 o (k + 1) c (L.getD k 0) l undef nilS g).t (okTwo (by simpa using hx) (okTwo hce (okTwo hix (okOne hgt))))).mono fun e y he => ?_
          obtain ⟨rfl, ⟨g', h2⟩, h3⟩ := he
          have e0 : trimN L = k + 1 := trimN_uniq hz (.inr (by simpa using hx))
          exact ⟨rfl, ⟨g', by rw [h2, e0]⟩, h3⟩
    · match e, he with
      | none, he => exact ⟨rfl, he⟩
  · rintro ⟨t, h', s⟩ ⟨_, ⟨g', ht⟩, hh⟩
    simp only at ht hh
    subst ht hh
    refine (goesT_runs (tabY_ok conN_ok) (trim_end _ undef nilS _ g') (fun x hx => by cases hx)).mono fun e y he => ?_
    obtain ⟨rfl, ⟨g2, h2⟩, h3⟩ := he
    refine ⟨.inr rfl, ?_⟩
    rw [h2, h3]
    rfl
/-- one row, the smallest memory -/
theorem rows1 {l : List Value} (h : ∀ v ∈ l, still v = true) : (⟨1, [(l, tR)]⟩ : Hp).rows := by
  refine ⟨rfl, fun b x hb => ?_⟩
  have hb0 : b = 0 := by have : b < 1 := Hp.blk_lt hb; omega
  subst hb0
  have : x = (l, tR) := (Option.some.inj hb).symm
  rw [this]
  exact ⟨tR_ro, h, tR_ab⟩
theorem fitsR1 {l : List Value} {h : Hp} {b : Nat} {x : List Value × TypeId} (hb : h.blk? b = some x) (h1 : tomb x.2 = false) (h2 : rt x.2 = tU) (e : x.1 = l) : (⟨1, [(l, tR)]⟩ : Hp).fits (fun _ => b) h := by
  intro i y hi _
  have hb0 : i = 0 := by have : i < 1 := Hp.blk_lt hi; omega
  subst hb0
  have : y = (l, tR) := (Option.some.inj hi).symm
  rw [this]
  exact ⟨x, [], hb, h1, by rw [h2]; exact tR_rt.symm, by rw [e, List.append_nil]⟩
def gTrim : AnsH := fun vals h s =>
  match vals with
  | [.slice none 0 0] => some (nilS, h, s, [])
  | [.slice (some ⟨b, o, none⟩) n c] =>
    match h.blk? b with
    | some x => some (sl b o (trimN (cutI x.1 o n)) c, h, s, [(rowOk x.2 x.1 o n c, true)])
    | none => none
  | _ => none
theorem trim_nil : Fits (reckon (tabOf Tryz.prog extY conN true) 100 112 [nilS] []) nilS [] := ⟨by kernel_rfl, by kernel_rfl, by kernel_rfl, by kernel_rfl⟩
theorem gTrim_ok : AnsHOk 112 gTrim := by
  intro vals h s v h' s' lg hg hl m B w E hv
  unfold gTrim at hg
  split at hg
  · cases hg
    refine (fits_calls (tabY_ok conN_ok) trim_nil (fun x hx => by cases hx) (by rfl) (by rfl) w).mono fun e w' he => ?_
    obtain ⟨E', hb⟩ := clean_emb E he.2
    exact ⟨m, he.1, ⟨Agree.refl _ _, E', hb, Nat.le_refl _, rfl⟩⟩
  · rename_i b o n c
    split at hg
    · rename_i x hx
      cases hg
      obtain ⟨h1, h2, h3, h4, h5, h6, h7⟩ := row_of (hl _ (List.mem_singleton.2 rfl))
      have hlt := Hp.blk_lt hx
      have r := trim_runs h1 h4 (by rw [h2]; exact h3)
      rw [h2] at r
      have := row_calls (T := tabOf Tryz.prog extY conN true) Tryz.func112 trim_body (rows1 h7) (vals := [sl 0 o n c]) (fun v hv => by rw [List.mem_singleton.1 hv]; rfl) (by rfl) r E (s := fun _ => b) (fun i _ => hlt) (fitsR1 hx h5 h6 rfl)
      exact this.mono fun e w' he => ⟨m, he.1, he.2⟩
    · cases hg
  · cases hg
/-- two rows -/
def h2 (la lb : List Value) : Hp := ⟨2, [(lb, tR), (la, tR)]⟩
def pair (a b i : Nat) : Nat := if Nat.beq i 0 = true then a else b
theorem blk2 {la lb : List Value} {i : Nat} {x : List Value × TypeId} (h : (h2 la lb).blk? i = some x) : (i = 0 ∧ x = (la, tR)) ∨ (i = 1 ∧ x = (lb, tR)) := by
  have : i < 2 := Hp.blk_lt h
  have : i = 0 ∨ i = 1 := by omega
  rcases this with rfl | rfl
  · exact .inl ⟨rfl, (Option.some.inj h).symm⟩
  · exact .inr ⟨rfl, (Option.some.inj h).symm⟩
theorem rows2 {la lb : List Value} (ha : ∀ v ∈ la, still v = true) (hb : ∀ v ∈ lb, still v = true) : (h2 la lb).rows := by
  refine ⟨rfl, fun b x hx => ?_⟩
  rcases blk2 hx with ⟨_, e⟩ | ⟨_, e⟩ <;> rw [e]
  · exact ⟨tR_ro, ha, tR_ab⟩
  · exact ⟨tR_ro, hb, tR_ab⟩
theorem fitsR2 {h : Hp} {a b : Nat} {x y : List Value × TypeId} (hx : h.blk? a = some x) (x1 : tomb x.2 = false) (x2 : rt x.2 = tU) (hy : h.blk? b = some y) (y1 : tomb y.2 = false) (y2 : rt y.2 = tU) : (h2 x.1 y.1).fits (pair a b) h := by
  intro i z hz _
  rcases blk2 hz with ⟨rfl, e⟩ | ⟨rfl, e⟩ <;> rw [e]
  · exact ⟨x, [], hx, x1, by rw [x2]; exact tR_rt.symm, by rw [List.append_nil]⟩
  · exact ⟨y, [], hy, y1, by rw [y2]; exact tR_rt.symm, by rw [List.append_nil]⟩
/-- a row of which nothing is known -/
def hT : Hp := ⟨1, [([], 2 * dead)]⟩
theorem blkT {i : Nat} {x : List Value × TypeId} (h : hT.blk? i = some x) : x = ([], 2 * dead) := by
  have h1 : i < 1 := Hp.blk_lt h
  have h2 : i = 0 := by omega
  subst h2
  exact (Option.some.inj h).symm
theorem tombT : tomb (2 * dead) = true := by kernel_rfl
theorem roT : ro (2 * dead) = true := by kernel_rfl
theorem rowsT : hT.rows := ⟨rfl, fun b x hx => by rw [blkT hx]; exact ⟨roT, (fun v hv => by cases hv), by kernel_rfl⟩⟩
theorem fitsRT (s : Nat → Nat) (h : Hp) : hT.fits s h := fun i x hx ht => by rw [blkT hx, tombT] at ht; cases ht
end Go.Proofs.YtjlponbdflkbjaaGreatDoor
namespace Go.Proofs.YtjlponbdflkbjaaGreatDoor.Na
open Go.KRun Go.Nt
set_option maxRecDepth 100000
theorem wU_get (dx : List Int) (x : Int) (px : List Int) : (wU (dx ++ x :: px))[dx.length]? = some (uu x) := by
  unfold wU
  simp [uu]
theorem wU_set (dx : List Int) (x d : Int) (px : List Int) : (wU (dx ++ x :: px)).set dx.length (uu d) = wU ((dx ++ [d]) ++ px) := by
  unfold wU uu
  simp
theorem cel_ok {S : List Value} {o k : Nat} {x : Int} (h : S[o + k]? = some (uu x)) : (celR S o k x).1 = (celR S o k x).2 := by
  unfold celR
  simp only [Int.toNat_natCast, Nat.mul_one]
  rw [h]
  simp [cellIs, uu]
def i6' (n : Int) : Value := .int .i64 n
def oA (F : Func) : Code := cFst (cSnd (cBody F))
def oR (F : Func) : Code := cFst (cFst (cSnd (cSnd (cBody F))))
def oLoop (F : Func) : Code := cIn (cIn (cSnd (cFst (cSnd (cSnd (cBody F))))))
def oEnd (F : Func) : Code := cSnd (cSnd (cSnd (cBody F)))
end Go.Proofs.YtjlponbdflkbjaaGreatDoor.Na
