/-
  A RUN THAT THE KERNEL RECKONS, XIV: pieces of code told by the first temporaries and by some further on.
-/
import Derived.Test.YtbcpnpchioncbaaG05
import Derived.Test.YtbcpnpchioncbaaG06
namespace Go.KRun
open Go.RowKit

/-- temporaries: the first, some of which nothing is known, some that are, the rest -/
def ml (front : List Value) (b : Nat) (g : Nat → Value) (mid : List Value) (n : Nat) (g' : Nat → Value) : List Value := front ++ (tl b g ++ (mid ++ tl n g'))
def GoesM (r : Option (Ex × Lf × Lg)) (a b c n : Nat) (e : Ex) (front mid : List Value) (h : Hp) (cs : Log) : Prop :=
  r.map (fun r => (r.1, r.2.1.1.take a, ((r.2.1.1.drop a).take b).length, ((r.2.1.1.drop a).drop b).take c, (((r.2.1.1.drop a).drop b).drop c).length, r.2.1.2.1, r.2.2.cs)) = some (e, front, b, mid, n, h, cs) ∧
    r.map (fun r => r.2.2.es.map Prod.fst) = r.map (fun r => r.2.2.es.map Prod.snd) ∧ r.map (fun r => r.2.2.bs.map Prod.fst) = r.map (fun r => r.2.2.bs.map Prod.snd)
theorem goesM_some {r : Option (Ex × Lf × Lg)} {a b c n : Nat} {e : Ex} {front mid : List Value} {h : Hp} {cs : Log} (hG : GoesM r a b c n e front mid h cs) (hcs : okLog cs) : ∃ g g' s L, r = some (e, (ml front b g mid n g', h, s), L) ∧ L.ok := by
  obtain ⟨h1, h5, h6⟩ := hG
  cases r with
  | none => cases h1
  | some r =>
    simp only [Option.map_some, Option.some.injEq, Prod.mk.injEq] at h1 h5 h6
    obtain ⟨e', ⟨t', h', s'⟩, L⟩ := r
    simp only at h1 h5 h6
    obtain ⟨h1, h2, h3, h4, h7, h8, h9⟩ := h1
    subst h1 h8
    obtain ⟨g, hg⟩ := tl_of h3
    obtain ⟨g', hg'⟩ := tl_of h7
    refine ⟨g, g', s', L, ?_, by rw [h9]; exact hcs, all_eq _ h5, all_eq _ h6⟩
    unfold ml
    rw [← h2, ← hg, ← h4, ← hg', List.take_append_drop, List.take_append_drop, List.take_append_drop]
theorem goesM_runs {T : Tab} (hT : TabOk T) {N : Nat} {c : Code} {t : List Value} {h h' : Hp} {s s0 : List Dec} {a b k n : Nat} {e : Ex} {front mid : List Value} {cs : Log} (hG : GoesM (evC T N false c (t, h, s) ⟨[], [], []⟩) a b k n e front mid h' cs) (hcs : okLog cs) :
    Runs T c (t, h, s0) fun e' y => e' = e ∧ (∃ g g', y.1 = ml front b g mid n g') ∧ y.2.1 = h' := by
  obtain ⟨g, g', s', L, hr, hL⟩ := goesM_some hG hcs
  refine Runs.script ((Runs.ev hT hr hL).mono fun e2 y he => ?_)
  obtain ⟨rfl, rfl⟩ := he
  exact ⟨rfl, ⟨g, g', rfl⟩, rfl⟩
end Go.KRun

/-
  A RUN THAT THE KERNEL RECKONS: a memory made small again: blocks that are no more needed are let go, the others numbered anew; what lies in temporaries that are no more needed is of the world's own.
-/
namespace Go.KRun
open Go.RowKit

theorem compact {m : Mp} {B : Nat} {t t' : List Value} {h h' : Hp} {s : List Dec} {a : Act} {w : World} (R : Rel m B (t, h, s) a w) (f : Nat → Nat) (hl : h'.l.length = h'.n)
    (hb : ∀ i x, h'.blk? i = some x → (∀ v ∈ x.1, still v = true) ∧ ∃ y r, h.blk? (f i) = some y ∧ y.2 = x.2 ∧ y.1 = x.1 ++ r)
    (hi : ∀ i j x y, h'.blk? i = some x → h'.blk? j = some y → ro x.2 = false → ro y.2 = false → f i = f j → i = j)
    (ht : t'.map (mv fun i => m (f i)) = t.map (mv m)) (hw : ∀ v ∈ t', lt h'.n v = true) : Rel (fun i => m (f i)) B (t', h', s) a w := by
  have E := R.emb
  refine ⟨by rw [R.tmps]; simp only; rw [ht], R.dfr, ?_, hw⟩
  refine ⟨hl, ?_, ?_, ?_, ?_, ?_, E.base, E.ice, ?_⟩
  · intro b x hx ht
    obtain ⟨q1, y, r, q2, q3, q4⟩ := hb b x hx
    obtain ⟨r0, z, e1, e2, e3⟩ := E.lies (f b) y q2 (by rw [q3]; exact ht)
    rw [q4, List.map_append, still_map (m' := fun i => m (f i)) q1] at e1 e2
    refine ⟨r.map (mv1 m) ++ r0, z, by rw [← e1]; simp; omega, by rw [e2, List.append_assoc], by rw [← q3]; exact e3⟩
  · intro b x hx hr
    obtain ⟨_, y, r, q2, q3, _⟩ := hb b x hx
    exact E.low (f b) y q2 (by rw [q3]; exact hr)
  · intro b x hx ht hr
    obtain ⟨_, y, r, q2, q3, _⟩ := hb b x hx
    exact E.ros (f b) y q2 (by rw [q3]; exact ht) (by rw [q3]; exact hr)
  · intro b b' x x' hx hx' hr hr' he
    obtain ⟨_, y, r, q2, q3, _⟩ := hb b x hx
    obtain ⟨_, y', r', q2', q3', _⟩ := hb b' x' hx'
    exact hi b b' x x' hx hx' hr hr' (E.inj _ _ y y' q2 q2' (by rw [q3]; exact hr) (by rw [q3']; exact hr') he)
  · intro b x hx v hv
    exact still_lt (Nat.lt_of_le_of_lt (Nat.zero_le _) (Hp.blk_lt hx)) ((hb b x hx).1 v hv)
  · intro b x hx ha
    obtain ⟨q1, y, r, q2, q3, q4⟩ := hb b x hx
    obtain ⟨e1, r0, t0, z, e2⟩ := E.abs (f b) y q2 (by rw [q3]; exact ha)
    rw [q3] at e1 e2
    rw [q4, List.map_append, still_map (m' := fun i => m (f i)) q1] at e2
    exact ⟨e1, r.map (mv1 m) ++ r0, t0, z, by rw [e2, List.append_assoc]⟩
/-- the temporaries that are needed, with their blocks' new numbers; the others as the world has them -/
theorem anew {m : Mp} (f : Nat → Nat) {front front' rest : List Value} (h : front'.map (rn f) = front) : (front' ++ rest.map (fun v => Value.iface dead (mv m v))).map (mv fun i => m (f i)) = (front ++ rest).map (mv m) := by
  rw [List.map_append, List.map_append, ← h, List.map_map, List.map_map]
  congr 1
  · exact List.map_congr_left fun v _ => (mv_rn m f v).symm
/-- the memory made small behind a piece of code -/
theorem RunsW.small {T : Tab} {c : Code} {x : Lf} {P : Ex → Lf → Prop} (hr : RunsW T c x P) {P' : Ex → Lf → Prop}
    (hp : ∀ e y, P e y → P' e y ∨ ∃ (front front' rest : List Value) (h h' : Hp) (s : List Dec) (f : Nat → Nat), y = (front ++ rest, h, s) ∧ front'.map (rn f) = front ∧ h'.l.length = h'.n ∧ 0 < h'.n ∧
      (∀ i x, h'.blk? i = some x → (∀ v ∈ x.1, still v = true) ∧ ∃ y r, h.blk? (f i) = some y ∧ y.2 = x.2 ∧ y.1 = x.1 ++ r) ∧
      (∀ i j x y, h'.blk? i = some x → h'.blk? j = some y → ro x.2 = false → ro y.2 = false → f i = f j → i = j) ∧ (∀ v ∈ front', lt h'.n v = true) ∧ ∀ g, P' e (front' ++ tl rest.length g, h', s)) : RunsW T c x P' := by
  intro m B a w R Q hQ
  refine hr m B a w R Q fun e y he m' a' w' R' hb' => ?_
  rcases hp e y he with h1 | ⟨front, front', rest, h, h', s, f, rfl, e1, e2, e3, e4, e5, e6, e7⟩
  · exact hQ e y h1 m' a' w' R' hb'
  · obtain ⟨g, hg⟩ := tl_of (J := rest.map (fun v => Value.iface dead (mv m' v))) (n := rest.length) (by simp)
    refine hQ e _ (e7 g) _ a' w' (compact R' f e2 e4 e5 (by rw [← hg]; exact anew f e1) ?_) hb'
    intro v hv
    rw [← hg] at hv
    rcases List.mem_append.1 hv with hv | hv
    · exact e6 v hv
    · obtain ⟨u, _, rfl⟩ := List.mem_map.1 hv
      simp [lt, lt2, lt1, e3, dead]
/-- a 'for', its memory made small behind each round -/
theorem RunsW.forLoop {T : Tab} {c : Code} {id : Nat} {x : Lf} {P : Lf → Prop} {R : Lf → Prop} (Inv : Nat → Lf → Prop)
    (round : ∀ n x, Inv n x → RunsW T c x fun e y => match e with | none => ∃ n', n' < n ∧ Inv n' y | some none => R y | some (some id') => id' = id ∧ P y) {n : Nat} (h0 : Inv n x) :
    RunsW T (.block id (.loop c)) x fun e y => match e with | none => P y | some none => R y | some (some _) => False := by
  refine RunsW.block (P1 := fun e y => match e with | none => False | some none => R y | some (some id') => id' = id ∧ P y) ?_ (fun y he => he.elim) (fun y he => he) (fun y he => he.2) (fun id' y hid he => absurd he.1 hid)
  refine RunsW.loop Inv (fun n x hI => (round n x hI).mono fun e y he => ?_) h0
  match e, he with
  | none, he => exact he
  | some none, he => exact he
  | some (some id'), he => exact he
theorem goesT_runsW {T : Tab} (hT : TabOk T) {N : Nat} {c : Code} {t : List Value} {h h' : Hp} {s s0 : List Dec} {k n : Nat} {e : Ex} {front : List Value} {cs : Log} (hG : GoesT (evC T N false c (t, h, s) ⟨[], [], []⟩) k n e front h' cs) (hcs : okLog cs) :
    RunsW T c (t, h, s0) fun e' y => e' = e ∧ (∃ g, y.1 = front ++ tl n g) ∧ y.2.1 = h' := (goesT_runs hT hG hcs).w
theorem tl_len (n : Nat) (g : Nat → Value) : (tl n g).length = n := by simp [tl]
/-- two blocks of a memory kept, the first and another one -/
def keep2 (b : Nat) (i : Nat) : Nat := if i = 0 then 0 else b
theorem blkTwo {x y : List Value × TypeId} {i : Nat} {z : List Value × TypeId} (h : (⟨2, [y, x]⟩ : Hp).blk? i = some z) : (i = 0 ∧ z = x) ∨ (i = 1 ∧ z = y) := by
  have : i < 2 := Hp.blk_lt h
  have : i = 0 ∨ i = 1 := by omega
  rcases this with rfl | rfl
  · exact .inl ⟨rfl, (Option.some.inj h).symm⟩
  · exact .inr ⟨rfl, (Option.some.inj h).symm⟩
/-- behind a round: the first block and the newest one are kept -/
theorem RunsW.two {T : Tab} {c : Code} {x0 : Lf} {ex : Ex} {front front' : List Value} {n b : Nat} {h : Hp} {x y : List Value × TypeId} (hr : RunsW T c x0 fun e z => e = ex ∧ (∃ g, z.1 = front ++ tl n g) ∧ z.2.1 = h)
    (hf : front'.map (rn (keep2 b)) = front) (hx : h.blk? 0 = some x) (hy : h.blk? b = some y) (hb : b ≠ 0) (sx : ∀ v ∈ x.1, still v = true) (sy : ∀ v ∈ y.1, still v = true) (hw : ∀ v ∈ front', lt 2 v = true) :
    RunsW T c x0 fun e z => e = ex ∧ (∃ g, z.1 = front' ++ tl n g) ∧ z.2.1 = ⟨2, [y, x]⟩ := by
  refine hr.small fun e z he => .inr ?_
  obtain ⟨rfl, ⟨g, h1⟩, h2⟩ := he
  obtain ⟨t, h', s⟩ := z
  simp only at h1 h2
  subst h1 h2
  refine ⟨front, front', tl n g, h', ⟨2, [y, x]⟩, s, keep2 b, rfl, hf, rfl, (by show 0 < 2; omega), fun i z hz => ?_, fun i j u v hi hj _ _ hij => ?_, hw, fun g' => ⟨rfl, ⟨g', by rw [tl_len]⟩, rfl⟩⟩
  · rcases blkTwo hz with ⟨rfl, rfl⟩ | ⟨rfl, rfl⟩
    · exact ⟨sx, z, [], by simpa [keep2] using hx, rfl, by simp⟩
    · exact ⟨sy, z, [], by simpa [keep2] using hy, rfl, by simp⟩
  · rcases blkTwo hi with ⟨rfl, _⟩ | ⟨rfl, _⟩ <;> rcases blkTwo hj with ⟨rfl, _⟩ | ⟨rfl, _⟩
    · rfl
    · simp [keep2] at hij; exact absurd hij.symm hb
    · simp [keep2] at hij; exact absurd hij hb
    · rfl
/-- the first blocks of a memory kept, and another one -/
def keepK (k b : Nat) (i : Nat) : Nat := if Nat.blt i k = true then i else b
theorem blkK1 {base : List (List Value × TypeId)} {k : Nat} (hk : base.length = k) {y : List Value × TypeId} {i : Nat} {z : List Value × TypeId} (h : (⟨k + 1, y :: base⟩ : Hp).blk? i = some z) : (i < k ∧ (⟨k, base⟩ : Hp).blk? i = some z) ∨ (i = k ∧ z = y) := by
  have hi : i < k + 1 := Hp.blk_lt h
  by_cases h0 : i = k
  · subst h0
    have : (⟨i + 1, y :: base⟩ : Hp).blk? i = some y := by
      unfold Hp.blk?
      rw [if_pos (blt_iff.2 (by show i < i + 1; omega))]
      show (y :: base)[i + 1 - 1 - i]? = some y
      rw [show i + 1 - 1 - i = 0 from by omega]
      rfl
    rw [this] at h
    exact .inr ⟨rfl, (Option.some.inj h).symm⟩
  · refine .inl ⟨by omega, ?_⟩
    unfold Hp.blk? at h ⊢
    rw [if_pos (blt_iff.2 (by show i < k + 1; omega))] at h
    rw [if_pos (blt_iff.2 (by show i < k; omega))]
    have e : k + 1 - 1 - i = (k - 1 - i) + 1 := by omega
    have h' : (y :: base)[k + 1 - 1 - i]? = some z := h
    rw [e, List.getElem?_cons_succ] at h'
    exact h'
/-- behind a round: the first blocks and one more are kept -/
theorem RunsW.kept {T : Tab} {c : Code} {x0 : Lf} {ex : Ex} {front front' : List Value} {n k b : Nat} {h : Hp} {base : List (List Value × TypeId)} {y : List Value × TypeId} (hr : RunsW T c x0 fun e z => e = ex ∧ (∃ g, z.1 = front ++ tl n g) ∧ z.2.1 = h)
    (hk : base.length = k) (hf : front'.map (rn (keepK k b)) = front) (hx : ∀ i x, (⟨k, base⟩ : Hp).blk? i = some x → h.blk? i = some x ∧ ∀ v ∈ x.1, still v = true) (hy : h.blk? b = some y) (hb : k ≤ b) (sy : ∀ v ∈ y.1, still v = true) (hw : ∀ v ∈ front', lt (k + 1) v = true) :
    RunsW T c x0 fun e z => e = ex ∧ (∃ g, z.1 = front' ++ tl n g) ∧ z.2.1 = ⟨k + 1, y :: base⟩ := by
  refine hr.small fun e z he => .inr ?_
  obtain ⟨rfl, ⟨g, h1⟩, h2⟩ := he
  obtain ⟨t, h', s⟩ := z
  simp only at h1 h2
  subst h1 h2
  refine ⟨front, front', tl n g, h', ⟨k + 1, y :: base⟩, s, keepK k b, rfl, hf, by simp [hk], Nat.succ_pos _, fun i z hz => ?_, fun i j u v hi hj _ _ hij => ?_, hw, fun g' => ⟨rfl, ⟨g', by rw [tl_len]⟩, rfl⟩⟩
  · rcases blkK1 hk hz with ⟨hi, hz'⟩ | ⟨rfl, rfl⟩
    · obtain ⟨q1, q2⟩ := hx i z hz'
      exact ⟨q2, z, [], by unfold keepK; rw [if_pos (blt_iff.2 hi)]; exact q1, rfl, by simp⟩
    · exact ⟨sy, z, [], by unfold keepK; rw [if_neg (by rw [blt_iff]; omega)]; exact hy, rfl, by simp⟩
  · unfold keepK at hij
    rcases blkK1 hk hi with ⟨h1, _⟩ | ⟨rfl, _⟩ <;> rcases blkK1 hk hj with ⟨h2, _⟩ | ⟨rfl, _⟩
    · rw [if_pos (blt_iff.2 h1), if_pos (blt_iff.2 h2)] at hij; exact hij
    · rw [if_pos (blt_iff.2 h1), if_neg (by rw [blt_iff]; omega)] at hij; omega
    · rw [if_pos (blt_iff.2 h2), if_neg (by rw [blt_iff]; omega)] at hij; omega
    · rfl
/-- a call with rows whose answer holds no address, and that keeps no block -/
theorem row_calls0 {T : Tab} {f : Nat} {F : Func} {c : Code} (hF : T.P.funcs[f]? = some F) (hc : F.body = some c) {h0 : Hp} (hr : h0.rows) {vals : List Value} (hvals : ∀ v ∈ vals, lt h0.n v = true) {v : Value} (hv : lt 0 v = true)
    (hrun : RunsW T c (vals ++ List.replicate (F.ntmps - vals.length) undef, h0, []) fun e y => (e = none ∨ e = some none) ∧ resS T.P F y.1 y.2.1 = some v)
    {m : Mp} {B : Nat} {h : Hp} {w : World} (E : Emb m B h w) {s : Nat → Nat} (hf : h0.fits s h) :
    Calls T.P f ((vals.map (rn s)).map (mv m)).toArray w fun e w' => ∃ m', e = .returned (mv m' v) ∧ Came m B h w v h m' w' := by
  have E0 := E.small hr hf
  have ev : (vals.map (rn s)).map (mv m) = vals.map (mv fun i => m (s i)) := by
    rw [List.map_map]
    exact List.map_congr_left fun y _ => mv_rn m s y
  rw [ev]
  refine calls_of_wp hF hc ?_
  have R : Rel (fun i => m (s i)) w.heap.size (vals ++ List.replicate (F.ntmps - vals.length) undef, h0, []) { tmps := (vals.map (mv fun i => m (s i))).toArray ++ Array.replicate (F.ntmps - (vals.map (mv fun i => m (s i))).toArray.size) undef, defers := [] } w := by
    refine ⟨?_, rfl, E0, ?_⟩
    · simp [mv_undef]
    · intro y hy
      rcases List.mem_append.1 hy with hy | hy
      · exact hvals y hy
      · rw [List.eq_of_mem_replicate hy]; simp [undef, lt]
  refine hrun _ _ _ w R _ fun e y he m1 a' w' k2 k3 => ?_
  obtain ⟨hex, hres⟩ := he
  obtain ⟨r1, r2⟩ := resS_run k2.emb k2.wf hres
  rw [← k2.tmps, mv_still hv] at r1
  have td : Tidy w w' := ⟨k3, fun k h1 h2 => k2.emb.ice k h1 h2⟩
  obtain ⟨E', hb⟩ := clean_emb E td
  have post : a'.defers = [] ∧ ∃ v', (results F a'.tmps).run T.P w' = .ok v' w' ∧ ∃ m', Ending.returned v' = .returned (mv m' v) ∧ Came m B h w v h m' w' :=
    ⟨k2.dfr, _, r1, m, by rw [mv_still hv], ⟨Agree.refl _ _, E', hb, Nat.le_refl _, lt_mono (Nat.zero_le _) hv⟩⟩
  rcases hex with rfl | rfl <;> exact post
end Go.KRun

/-
  PLAIN ARITHMETIC: the digits of a number to a base, the lowest first, the last one not 0; the number of digits.
-/
namespace Go.Nt

/-- a number's value, of digits to a base -/
def vb (b : Nat) : List Int → Nat
  | [] => 0
  | x :: l => x.toNat + b * vb b l
/-- a number's digits -/
def db (b V : Nat) : List Int := if _h : V = 0 ∨ b < 2 then [] else ((V % b : Nat) : Int) :: db b (V / b)
  termination_by V
  decreasing_by exact Nat.div_lt_self (by omega) (by omega)
/-- digits to a base -/
abbrev Dg (b : Nat) (x : Int) : Prop := 0 ≤ x ∧ x < b
theorem db_zero (b : Nat) : db b 0 = [] := by rw [db]; simp
theorem db_pos {b V : Nat} (hb : 2 ≤ b) (hV : V ≠ 0) : db b V = ((V % b : Nat) : Int) :: db b (V / b) := by
  rw [db]
  rw [dif_neg (by omega)]
theorem vb_db {b : Nat} (hb : 2 ≤ b) (V : Nat) : vb b (db b V) = V := by
  induction V using Nat.strongRecOn with
  | ind V ih =>
    by_cases hV : V = 0
    · subst hV; rw [db_zero]; rfl
    · rw [db_pos hb hV]
      simp only [vb]
      rw [ih (V / b) (Nat.div_lt_self (by omega) (by omega)), Int.toNat_natCast]
      exact Nat.mod_add_div V b
theorem db_dg {b : Nat} (hb : 2 ≤ b) (V : Nat) : ∀ x ∈ db b V, Dg b x := by
  induction V using Nat.strongRecOn with
  | ind V ih =>
    by_cases hV : V = 0
    · subst hV; rw [db_zero]; intro x hx; cases hx
    · rw [db_pos hb hV]
      intro x hx
      rcases List.mem_cons.1 hx with rfl | hx
      · have := Nat.mod_lt V (show b > 0 by omega)
        exact ⟨by omega, by omega⟩
      · exact ih (V / b) (Nat.div_lt_self (by omega) (by omega)) x hx
theorem db_nil {b V : Nat} (hb : 2 ≤ b) : db b V = [] ↔ V = 0 := by
  constructor
  · intro h
    by_cases hV : V = 0
    · exact hV
    · rw [db_pos hb hV] at h; cases h
  · rintro rfl; exact db_zero b
/-- digits without noughts at the end are the number's -/
theorem take_trim {b : Nat} (hb : 2 ≤ b) : ∀ (L : List Int), (∀ x ∈ L, Dg b x) → L.take (trimN L) = db b (vb b L)
  | [], _ => by simp [vb, db_zero]
  | x :: r, h => by
    have ih := take_trim hb r (fun y hy => h y (List.mem_cons_of_mem _ hy))
    have hx := h x (List.mem_cons_self)
    have hxn : ((x.toNat : Nat) : Int) = x := Int.toNat_of_nonneg hx.1
    have hlt : x.toNat < b := by omega
    have e1 : (x.toNat + b * vb b r) % b = x.toNat := by rw [Nat.add_mul_mod_self_left, Nat.mod_eq_of_lt hlt]
    have e2 : (x.toNat + b * vb b r) / b = vb b r := by rw [Nat.add_mul_div_left _ _ (by omega), Nat.div_eq_of_lt hlt, Nat.zero_add]
    unfold trimN
    by_cases h0 : trimN r = 0
    · rw [if_pos h0]
      rw [h0, List.take_zero] at ih
      have hv : vb b r = 0 := (db_nil hb).1 ih.symm
      by_cases hx0 : x = 0
      · rw [if_pos hx0]
        simp only [List.take_zero, vb, hv, hx0]
        simp [db_zero]
      · rw [if_neg hx0]
        have hx1 : x.toNat ≠ 0 := by omega
        show [x] = _
        simp only [vb]
        rw [db_pos hb (by rw [hv]; omega), e1, e2, hv, db_zero, hxn]
    · rw [if_neg h0]
      have hv : vb b r ≠ 0 := fun hv => by
        rw [hv, db_zero] at ih
        have hl := congrArg List.length ih
        have := trimN_le r
        simp at hl
        rcases hl with hl | hl
        · exact h0 hl
        · subst hl; exact h0 rfl
      have hpos : 0 < b * vb b r := Nat.mul_pos (by omega) (by omega)
      show x :: r.take (trimN r) = _
      simp only [vb]
      rw [db_pos hb (by omega), e1, e2, hxn, ih]
theorem trim_len {b : Nat} (hb : 2 ≤ b) {L : List Int} (h : ∀ x ∈ L, Dg b x) : trimN L = (db b (vb b L)).length := by
  rw [← take_trim hb L h]
  have := trimN_le L
  simp
  omega
/-- a number's digits are those of it -/
def Canon (b : Nat) (L : List Int) : Prop := (∀ x ∈ L, Dg b x) ∧ trimN L = L.length
theorem can_db {b : Nat} (hb : 2 ≤ b) (V : Nat) : Canon b (db b V) := by
  have h := db_dg hb V
  refine ⟨h, ?_⟩
  have := trim_len hb h
  rw [vb_db hb] at this
  exact this
theorem db_can {b : Nat} (hb : 2 ≤ b) {L : List Int} (h : Canon b L) : db b (vb b L) = L := by
  rw [← take_trim hb L h.1, h.2, List.take_length]
theorem db_len {b : Nat} (hb : 2 ≤ b) : ∀ (k V : Nat), V < b ^ k → (db b V).length ≤ k
  | 0, V, h => by
    have : V = 0 := by simpa using h
    subst this; rw [db_zero]; exact Nat.le_refl _
  | k + 1, V, h => by
    by_cases hV : V = 0
    · subst hV; rw [db_zero]; exact Nat.zero_le _
    · rw [db_pos hb hV]
      have : V / b < b ^ k := Nat.div_lt_of_lt_mul (by rw [Nat.pow_succ] at h; rw [Nat.mul_comm]; exact h)
      have := db_len hb k (V / b) this
      simp
      omega
theorem vb_lt {b : Nat} (hb : 2 ≤ b) : ∀ (L : List Int), (∀ x ∈ L, Dg b x) → vb b L < b ^ L.length
  | [], _ => by simp [vb]
  | x :: r, h => by
    have ih := vb_lt hb r (fun y hy => h y (List.mem_cons_of_mem _ hy))
    have hx := h x (List.mem_cons_self)
    have hlt : x.toNat < b := by omega
    simp only [vb, List.length_cons, Nat.pow_succ]
    calc x.toNat + b * vb b r < b + b * vb b r := by omega
      _ = b * (vb b r + 1) := by rw [Nat.mul_add, Nat.mul_one, Nat.add_comm]
      _ ≤ b * b ^ r.length := Nat.mul_le_mul_left _ ih
      _ = b ^ r.length * b := Nat.mul_comm _ _
theorem vb_append (b : Nat) : ∀ (L M : List Int), vb b (L ++ M) = vb b L + b ^ L.length * vb b M
  | [], M => by simp [vb]
  | x :: r, M => by
    simp only [List.cons_append, vb, vb_append b r M, List.length_cons, Nat.pow_succ]
    rw [Nat.mul_add, ← Nat.mul_assoc, Nat.mul_comm b (b ^ r.length)]
    omega
end Go.Nt
