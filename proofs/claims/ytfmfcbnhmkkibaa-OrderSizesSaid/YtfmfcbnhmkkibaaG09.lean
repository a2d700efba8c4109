/-
  nat.trim, as a call with a row.
-/
import Derived.Test.YtfmfcbnhmkkibaaG08
namespace Go.Proofs.Ytfmfcbnhmkkibaa
open Go.KRun Go.Nt
set_option maxRecDepth 100000

/-- words of 32 bits; the type of such a row's block, only read -/
def wU (L : List Int) : List Value := L.map (Value.int .u32)
def tU : TypeId := 53
def tR : TypeId := 53 + dead
theorem tR_ro : ro tR = true := by kernel_rfl
theorem tR_ab : ab tR = false := by kernel_rfl
theorem tR_tomb : tomb tR = false := by kernel_rfl
theorem tR_rt : rt tR = tU := by kernel_rfl
def sl (b o n c : Nat) : Value := .slice (some ⟨b, o, none⟩) n c
def nilS : Value := .slice none 0 0
def nPre (F : Func) : List Code := [cFst (cBody F)]
def nLoop (F : Func) : Code := cIn (cIn (cFst (cSnd (cBody F))))
def nEnd (F : Func) : Code := cSnd (cSnd (cBody F))
def n1 (n : Nat) : Int := IntKind.i64.wrap ((n : Int) - 1)
/-! ### rows of words in a memory -/
def intOf : Value → Int
  | .int _ n => n
  | _ => 0
def isU : Value → Bool
  | .int .u32 n => decide (0 ≤ n ∧ n < 4294967296)
  | _ => false
theorem isU_spec {v : Value} (h : isU v = true) : v = .int .u32 (intOf v) ∧ 0 ≤ intOf v ∧ intOf v < 4294967296 := by
  unfold isU at h
  split at h
  · simp only [decide_eq_true_eq] at h
    exact ⟨rfl, h.1, h.2⟩
  · cases h
def cutV (l : List Value) (o n : Nat) : List Value := (l.drop o).take n
def cutI (l : List Value) (o n : Nat) : List Int := (cutV l o n).map intOf
/-- a row of words, its capacity known -/
def rowOk (ty : TypeId) (l : List Value) (o n c : Nat) : Bool := !(tomb ty) && Nat.beq (rt ty) tU && Nat.ble (o + n) l.length && Nat.ble n c && smallC c && (cutV l o n).all isU && l.all still
theorem cutV_words {l : List Value} {o n : Nat} (h : ((cutV l o n).all isU) = true) : cutV l o n = wU (cutI l o n) := by
  unfold wU cutI
  rw [List.map_map]
  refine (List.map_id' _).symm.trans (List.map_congr_left fun v hv => ?_)
  exact (isU_spec (List.all_eq_true.1 h v hv)).1
/-- what is needed of a row in the smallest memory -/
structure Row (l : List Value) (o : Nat) (L : List Int) : Prop where
  len : o + L.length ≤ l.length
  cut : cutV l o L.length = wU L
  rng : ∀ x ∈ L, 0 ≤ x ∧ x < 4294967296
theorem Row.cell {l : List Value} {o : Nat} {L : List Int} (h : Row l o L) {k : Nat} (hk : k < L.length) : l[o + k]? = some (.int .u32 (L.getD k 0)) := by
  have e : (cutV l o L.length)[k]? = (wU L)[k]? := by rw [h.cut]
  unfold cutV wU at e
  rw [List.getElem?_take, if_pos hk, List.getElem?_drop, List.getElem?_map] at e
  rw [e, List.getElem?_eq_getElem hk]
  simp [List.getD, List.getElem?_eq_getElem hk]
theorem row_of {ty : TypeId} {l : List Value} {o n c : Nat} (h : rowOk ty l o n c = true) : Row l o (cutI l o n) ∧ (cutI l o n).length = n ∧ n ≤ c ∧ smallC c = true ∧ tomb ty = false ∧ rt ty = tU ∧ ∀ v ∈ l, still v = true := by
  unfold rowOk at h
  simp only [Bool.and_eq_true, Bool.not_eq_true'] at h
  obtain ⟨⟨⟨⟨⟨⟨h1, h2⟩, h3⟩, h4⟩, h5⟩, h6⟩, h7⟩ := h
  have h2 := Nat.eq_of_beq_eq_true h2
  have h3 := Nat.le_of_ble_eq_true h3
  have h4 := Nat.le_of_ble_eq_true h4
  have hlen : (cutI l o n).length = n := by unfold cutI cutV; simp; omega
  refine ⟨⟨by rw [hlen]; exact h3, by rw [hlen]; exact cutV_words h6, fun x hx => ?_⟩, hlen, h4, h5, h1, h2, List.all_eq_true.1 h7⟩
  unfold cutI at hx
  obtain ⟨v, hv, rfl⟩ := List.mem_map.1 hx
  have := isU_spec (List.all_eq_true.1 h6 v hv)
  exact ⟨this.2.1, this.2.2⟩
/-- one row, the smallest memory -/
theorem rows1 {l : List Value} (h : ∀ v ∈ l, still v = true) : (⟨1, [(l, tR)]⟩ : Hp).rows := by
  refine ⟨rfl, fun b x hb => ?_⟩
  have hb0 : b = 0 := by have : b < 1 := Hp.blk_lt hb; omega
  subst hb0
  have : x = (l, tR) := (Option.some.inj hb).symm
  rw [this]
  exact ⟨tR_ro, h, tR_ab⟩
theorem fitsR1 {l : List Value} {h : Hp} {b : Nat} {x : List Value × TypeId} (hb : h.blk? b = some x) (h1 : tomb x.2 = false) (h2 : rt x.2 = tU) (e : x.1 = l) : (⟨1, [(l, tR)]⟩ : Hp).fits (fun _ => b) h := by
  intro i y hi _
  have hb0 : i = 0 := by have : i < 1 := Hp.blk_lt hi; omega
  subst hb0
  have : y = (l, tR) := (Option.some.inj hi).symm
  rw [this]
  exact ⟨x, [], hb, h1, by rw [h2]; exact tR_rt.symm, by rw [e, List.append_nil]⟩
/-- two rows -/
def h2 (la lb : List Value) : Hp := ⟨2, [(lb, tR), (la, tR)]⟩
def pair (a b i : Nat) : Nat := if Nat.beq i 0 = true then a else b
theorem blk2 {la lb : List Value} {i : Nat} {x : List Value × TypeId} (h : (h2 la lb).blk? i = some x) : (i = 0 ∧ x = (la, tR)) ∨ (i = 1 ∧ x = (lb, tR)) := by
  have : i < 2 := Hp.blk_lt h
  have : i = 0 ∨ i = 1 := by omega
  rcases this with rfl | rfl
  · exact .inl ⟨rfl, (Option.some.inj h).symm⟩
  · exact .inr ⟨rfl, (Option.some.inj h).symm⟩
theorem rows2 {la lb : List Value} (ha : ∀ v ∈ la, still v = true) (hb : ∀ v ∈ lb, still v = true) : (h2 la lb).rows := by
  refine ⟨rfl, fun b x hx => ?_⟩
  rcases blk2 hx with ⟨_, e⟩ | ⟨_, e⟩ <;> rw [e]
  · exact ⟨tR_ro, ha, tR_ab⟩
  · exact ⟨tR_ro, hb, tR_ab⟩
theorem fitsR2 {h : Hp} {a b : Nat} {x y : List Value × TypeId} (hx : h.blk? a = some x) (x1 : tomb x.2 = false) (x2 : rt x.2 = tU) (hy : h.blk? b = some y) (y1 : tomb y.2 = false) (y2 : rt y.2 = tU) : (h2 x.1 y.1).fits (pair a b) h := by
  intro i z hz _
  rcases blk2 hz with ⟨rfl, e⟩ | ⟨rfl, e⟩ <;> rw [e]
  · exact ⟨x, [], hx, x1, by rw [x2]; exact tR_rt.symm, by rw [List.append_nil]⟩
  · exact ⟨y, [], hy, y1, by rw [y2]; exact tR_rt.symm, by rw [List.append_nil]⟩
/-- a row of which nothing is known -/
def hT : Hp := ⟨1, [([], 2 * dead)]⟩
theorem blkT {i : Nat} {x : List Value × TypeId} (h : hT.blk? i = some x) : x = ([], 2 * dead) := by
  have h1 : i < 1 := Hp.blk_lt h
  have h2 : i = 0 := by omega
  subst h2
  exact (Option.some.inj h).symm
theorem tombT : tomb (2 * dead) = true := by kernel_rfl
theorem roT : ro (2 * dead) = true := by kernel_rfl
theorem rowsT : hT.rows := ⟨rfl, fun b x hx => by rw [blkT hx]; exact ⟨roT, (fun v hv => by cases hv), by kernel_rfl⟩⟩
theorem fitsRT (s : Nat → Nat) (h : Hp) : hT.fits s h := fun i x hx ht => by rw [blkT hx, tombT] at ht; cases ht
end Go.Proofs.Ytfmfcbnhmkkibaa

/-
  A RUN THAT THE KERNEL RECKONS, XIV: pieces of code told by the first temporaries and by some further on.
-/
namespace Go.KRun
open Go.RowKit

/-- temporaries: the first, some of which nothing is known, some that are, the rest -/
def ml (front : List Value) (b : Nat) (g : Nat → Value) (mid : List Value) (n : Nat) (g' : Nat → Value) : List Value := front ++ (tl b g ++ (mid ++ tl n g'))
def GoesM (r : Option (Ex × Lf × Lg)) (a b c n : Nat) (e : Ex) (front mid : List Value) (h : Hp) (cs : Log) : Prop :=
  r.map (fun r => (r.1, r.2.1.1.take a, ((r.2.1.1.drop a).take b).length, ((r.2.1.1.drop a).drop b).take c, (((r.2.1.1.drop a).drop b).drop c).length, r.2.1.2.1, r.2.2.cs)) = some (e, front, b, mid, n, h, cs) ∧
    r.map (fun r => r.2.2.es.map Prod.fst) = r.map (fun r => r.2.2.es.map Prod.snd) ∧ r.map (fun r => r.2.2.bs.map Prod.fst) = r.map (fun r => r.2.2.bs.map Prod.snd)
theorem goesM_some {r : Option (Ex × Lf × Lg)} {a b c n : Nat} {e : Ex} {front mid : List Value} {h : Hp} {cs : Log} (hG : GoesM r a b c n e front mid h cs) (hcs : okLog cs) : ∃ g g' s L, r = some (e, (ml front b g mid n g', h, s), L) ∧ L.ok := by
  obtain ⟨h1, h5, h6⟩ := hG
  cases r with
  | none => cases h1
  | some r =>
    simp only [Option.map_some, Option.some.injEq, Prod.mk.injEq] at h1 h5 h6
    obtain ⟨e', ⟨t', h', s'⟩, L⟩ := r
    simp only at h1 h5 h6
    obtain ⟨h1, h2, h3, h4, h7, h8, h9⟩ := h1
    subst h1 h8
    obtain ⟨g, hg⟩ := tl_of h3
    obtain ⟨g', hg'⟩ := tl_of h7
    refine ⟨g, g', s', L, ?_, by rw [h9]; exact hcs, all_eq _ h5, all_eq _ h6⟩
    unfold ml
    rw [← h2, ← hg, ← h4, ← hg', List.take_append_drop, List.take_append_drop, List.take_append_drop]
theorem goesM_runs {T : Tab} (hT : TabOk T) {N : Nat} {c : Code} {t : List Value} {h h' : Hp} {s s0 : List Dec} {a b k n : Nat} {e : Ex} {front mid : List Value} {cs : Log} (hG : GoesM (evC T N false c (t, h, s) ⟨[], [], []⟩) a b k n e front mid h' cs) (hcs : okLog cs) :
    Runs T c (t, h, s0) fun e' y => e' = e ∧ (∃ g g', y.1 = ml front b g mid n g') ∧ y.2.1 = h' := by
  obtain ⟨g, g', s', L, hr, hL⟩ := goesM_some hG hcs
  refine Runs.script ((Runs.ev hT hr hL).mono fun e2 y he => ?_)
  obtain ⟨rfl, rfl⟩ := he
  exact ⟨rfl, ⟨g, g', rfl⟩, rfl⟩
end Go.KRun

/-
  A RUN THAT THE KERNEL RECKONS: a memory made small again: blocks that are no more needed are let go, the others numbered anew; what lies in temporaries that are no more needed is of the world's own.
-/
namespace Go.KRun
open Go.RowKit

theorem compact {m : Mp} {B : Nat} {t t' : List Value} {h h' : Hp} {s : List Dec} {a : Act} {w : World} (R : Rel m B (t, h, s) a w) (f : Nat → Nat) (hl : h'.l.length = h'.n)
    (hb : ∀ i x, h'.blk? i = some x → (∀ v ∈ x.1, still v = true) ∧ ∃ y r, h.blk? (f i) = some y ∧ y.2 = x.2 ∧ y.1 = x.1 ++ r)
    (hi : ∀ i j x y, h'.blk? i = some x → h'.blk? j = some y → ro x.2 = false → ro y.2 = false → f i = f j → i = j)
    (ht : t'.map (mv fun i => m (f i)) = t.map (mv m)) (hw : ∀ v ∈ t', lt h'.n v = true) : Rel (fun i => m (f i)) B (t', h', s) a w := by
  have E := R.emb
  refine ⟨by rw [R.tmps]; simp only; rw [ht], R.dfr, ?_, hw⟩
  refine ⟨hl, ?_, ?_, ?_, ?_, ?_, E.base, E.ice, ?_⟩
  · intro b x hx ht
    obtain ⟨q1, y, r, q2, q3, q4⟩ := hb b x hx
    obtain ⟨r0, z, e1, e2, e3⟩ := E.lies (f b) y q2 (by rw [q3]; exact ht)
    rw [q4, List.map_append, still_map (m' := fun i => m (f i)) q1] at e1 e2
    refine ⟨r.map (mv1 m) ++ r0, z, by rw [← e1]; simp; omega, by rw [e2, List.append_assoc], by rw [← q3]; exact e3⟩
  · intro b x hx hr
    obtain ⟨_, y, r, q2, q3, _⟩ := hb b x hx
    exact E.low (f b) y q2 (by rw [q3]; exact hr)
  · intro b x hx ht hr
    obtain ⟨_, y, r, q2, q3, _⟩ := hb b x hx
    exact E.ros (f b) y q2 (by rw [q3]; exact ht) (by rw [q3]; exact hr)
  · intro b b' x x' hx hx' hr hr' he
    obtain ⟨_, y, r, q2, q3, _⟩ := hb b x hx
    obtain ⟨_, y', r', q2', q3', _⟩ := hb b' x' hx'
    exact hi b b' x x' hx hx' hr hr' (E.inj _ _ y y' q2 q2' (by rw [q3]; exact hr) (by rw [q3']; exact hr') he)
  · intro b x hx v hv
    exact still_lt (Nat.lt_of_le_of_lt (Nat.zero_le _) (Hp.blk_lt hx)) ((hb b x hx).1 v hv)
  · intro b x hx ha
    obtain ⟨q1, y, r, q2, q3, q4⟩ := hb b x hx
    obtain ⟨e1, r0, t0, z, e2⟩ := E.abs (f b) y q2 (by rw [q3]; exact ha)
    rw [q3] at e1 e2
    rw [q4, List.map_append, still_map (m' := fun i => m (f i)) q1] at e2
    exact ⟨e1, r.map (mv1 m) ++ r0, t0, z, by rw [e2, List.append_assoc]⟩
/-- the temporaries that are needed, with their blocks' new numbers; the others as the world has them -/
theorem anew {m : Mp} (f : Nat → Nat) {front front' rest : List Value} (h : front'.map (rn f) = front) : (front' ++ rest.map (fun v => Value.iface dead (mv m v))).map (mv fun i => m (f i)) = (front ++ rest).map (mv m) := by
  rw [List.map_append, List.map_append, ← h, List.map_map, List.map_map]
  congr 1
  · exact List.map_congr_left fun v _ => (mv_rn m f v).symm
/-- the memory made small behind a piece of code -/
theorem RunsW.small {T : Tab} {c : Code} {x : Lf} {P : Ex → Lf → Prop} (hr : RunsW T c x P) {P' : Ex → Lf → Prop}
    (hp : ∀ e y, P e y → P' e y ∨ ∃ (front front' rest : List Value) (h h' : Hp) (s : List Dec) (f : Nat → Nat), y = (front ++ rest, h, s) ∧ front'.map (rn f) = front ∧ h'.l.length = h'.n ∧ 0 < h'.n ∧
      (∀ i x, h'.blk? i = some x → (∀ v ∈ x.1, still v = true) ∧ ∃ y r, h.blk? (f i) = some y ∧ y.2 = x.2 ∧ y.1 = x.1 ++ r) ∧
      (∀ i j x y, h'.blk? i = some x → h'.blk? j = some y → ro x.2 = false → ro y.2 = false → f i = f j → i = j) ∧ (∀ v ∈ front', lt h'.n v = true) ∧ ∀ g, P' e (front' ++ tl rest.length g, h', s)) : RunsW T c x P' := by
  intro m B a w R Q hQ
  refine hr m B a w R Q fun e y he m' a' w' R' hb' => ?_
  rcases hp e y he with h1 | ⟨front, front', rest, h, h', s, f, rfl, e1, e2, e3, e4, e5, e6, e7⟩
  · exact hQ e y h1 m' a' w' R' hb'
  · obtain ⟨g, hg⟩ := tl_of (J := rest.map (fun v => Value.iface dead (mv m' v))) (n := rest.length) (by simp)
    refine hQ e _ (e7 g) _ a' w' (compact R' f e2 e4 e5 (by rw [← hg]; exact anew f e1) ?_) hb'
    intro v hv
    rw [← hg] at hv
    rcases List.mem_append.1 hv with hv | hv
    · exact e6 v hv
    · obtain ⟨u, _, rfl⟩ := List.mem_map.1 hv
      simp [lt, lt2, lt1, e3, dead]
/-- a 'for', its memory made small behind each round -/
theorem RunsW.forLoop {T : Tab} {c : Code} {id : Nat} {x : Lf} {P : Lf → Prop} {R : Lf → Prop} (Inv : Nat → Lf → Prop)
    (round : ∀ n x, Inv n x → RunsW T c x fun e y => match e with | none => ∃ n', n' < n ∧ Inv n' y | some none => R y | some (some id') => id' = id ∧ P y) {n : Nat} (h0 : Inv n x) :
    RunsW T (.block id (.loop c)) x fun e y => match e with | none => P y | some none => R y | some (some _) => False := by
  refine RunsW.block (P1 := fun e y => match e with | none => False | some none => R y | some (some id') => id' = id ∧ P y) ?_ (fun y he => he.elim) (fun y he => he) (fun y he => he.2) (fun id' y hid he => absurd he.1 hid)
  refine RunsW.loop Inv (fun n x hI => (round n x hI).mono fun e y he => ?_) h0
  match e, he with
  | none, he => exact he
  | some none, he => exact he
  | some (some id'), he => exact he
theorem goesT_runsW {T : Tab} (hT : TabOk T) {N : Nat} {c : Code} {t : List Value} {h h' : Hp} {s s0 : List Dec} {k n : Nat} {e : Ex} {front : List Value} {cs : Log} (hG : GoesT (evC T N false c (t, h, s) ⟨[], [], []⟩) k n e front h' cs) (hcs : okLog cs) :
    RunsW T c (t, h, s0) fun e' y => e' = e ∧ (∃ g, y.1 = front ++ tl n g) ∧ y.2.1 = h' := (goesT_runs hT hG hcs).w
theorem tl_len (n : Nat) (g : Nat → Value) : (tl n g).length = n := by simp [tl]
/-- two blocks of a memory kept, the first and another one -/
def keep2 (b : Nat) (i : Nat) : Nat := if i = 0 then 0 else b
theorem blkTwo {x y : List Value × TypeId} {i : Nat} {z : List Value × TypeId} (h : (⟨2, [y, x]⟩ : Hp).blk? i = some z) : (i = 0 ∧ z = x) ∨ (i = 1 ∧ z = y) := by
  have : i < 2 := Hp.blk_lt h
  have : i = 0 ∨ i = 1 := by omega
  rcases this with rfl | rfl
  · exact .inl ⟨rfl, (Option.some.inj h).symm⟩
  · exact .inr ⟨rfl, (Option.some.inj h).symm⟩
/-- behind a round: the first block and the newest one are kept -/
theorem RunsW.two {T : Tab} {c : Code} {x0 : Lf} {ex : Ex} {front front' : List Value} {n b : Nat} {h : Hp} {x y : List Value × TypeId} (hr : RunsW T c x0 fun e z => e = ex ∧ (∃ g, z.1 = front ++ tl n g) ∧ z.2.1 = h)
    (hf : front'.map (rn (keep2 b)) = front) (hx : h.blk? 0 = some x) (hy : h.blk? b = some y) (hb : b ≠ 0) (sx : ∀ v ∈ x.1, still v = true) (sy : ∀ v ∈ y.1, still v = true) (hw : ∀ v ∈ front', lt 2 v = true) :
    RunsW T c x0 fun e z => e = ex ∧ (∃ g, z.1 = front' ++ tl n g) ∧ z.2.1 = ⟨2, [y, x]⟩ := by
  refine hr.small fun e z he => .inr ?_
  obtain ⟨rfl, ⟨g, h1⟩, h2⟩ := he
  obtain ⟨t, h', s⟩ := z
  simp only at h1 h2
  subst h1 h2
  refine ⟨front, front', tl n g, h', ⟨2, [y, x]⟩, s, keep2 b, rfl, hf, rfl, (by show 0 < 2; omega), fun i z hz => ?_, fun i j u v hi hj _ _ hij => ?_, hw, fun g' => ⟨rfl, ⟨g', by rw [tl_len]⟩, rfl⟩⟩
  · rcases blkTwo hz with ⟨rfl, rfl⟩ | ⟨rfl, rfl⟩
    · exact ⟨sx, z, [], by simpa [keep2] using hx, rfl, by simp⟩
    · exact ⟨sy, z, [], by simpa [keep2] using hy, rfl, by simp⟩
  · rcases blkTwo hi with ⟨rfl, _⟩ | ⟨rfl, _⟩ <;> rcases blkTwo hj with ⟨rfl, _⟩ | ⟨rfl, _⟩
    · rfl
    · simp [keep2] at hij; exact absurd hij.symm hb
    · simp [keep2] at hij; exact absurd hij hb
    · rfl
/-- the first blocks of a memory kept, and another one -/
def keepK (k b : Nat) (i : Nat) : Nat := if Nat.blt i k = true then i else b
theorem blkK1 {base : List (List Value × TypeId)} {k : Nat} (hk : base.length = k) {y : List Value × TypeId} {i : Nat} {z : List Value × TypeId} (h : (⟨k + 1, y :: base⟩ : Hp).blk? i = some z) : (i < k ∧ (⟨k, base⟩ : Hp).blk? i = some z) ∨ (i = k ∧ z = y) := by
  have hi : i < k + 1 := Hp.blk_lt h
  by_cases h0 : i = k
  · subst h0
    have : (⟨i + 1, y :: base⟩ : Hp).blk? i = some y := by
      unfold Hp.blk?
      rw [if_pos (blt_iff.2 (by show i < i + 1; omega))]
      show (y :: base)[i + 1 - 1 - i]? = some y
      rw [show i + 1 - 1 - i = 0 from by omega]
      rfl
    rw [this] at h
    exact .inr ⟨rfl, (Option.some.inj h).symm⟩
  · refine .inl ⟨by omega, ?_⟩
    unfold Hp.blk? at h ⊢
    rw [if_pos (blt_iff.2 (by show i < k + 1; omega))] at h
    rw [if_pos (blt_iff.2 (by show i < k; omega))]
    have e : k + 1 - 1 - i = (k - 1 - i) + 1 := by omega
    have h' : (y :: base)[k + 1 - 1 - i]? = some z := h
    rw [e, List.getElem?_cons_succ] at h'
    exact h'
/-- behind a round: the first blocks and one more are kept -/
theorem RunsW.kept {T : Tab} {c : Code} {x0 : Lf} {ex : Ex} {front front' : List Value} {n k b : Nat} {h : Hp} {base : List (List Value × TypeId)} {y : List Value × TypeId} (hr : RunsW T c x0 fun e z => e = ex ∧ (∃ g, z.1 = front ++ tl n g) ∧ z.2.1 = h)
    (hk : base.length = k) (hf : front'.map (rn (keepK k b)) = front) (hx : ∀ i x, (⟨k, base⟩ : Hp).blk? i = some x → h.blk? i = some x ∧ ∀ v ∈ x.1, still v = true) (hy : h.blk? b = some y) (hb : k ≤ b) (sy : ∀ v ∈ y.1, still v = true) (hw : ∀ v ∈ front', lt (k + 1) v = true) :
    RunsW T c x0 fun e z => e = ex ∧ (∃ g, z.1 = front' ++ tl n g) ∧ z.2.1 = ⟨k + 1, y :: base⟩ := by
  refine hr.small fun e z he => .inr ?_
  obtain ⟨rfl, ⟨g, h1⟩, h2⟩ := he
  obtain ⟨t, h', s⟩ := z
  simp only at h1 h2
  subst h1 h2
  refine ⟨front, front', tl n g, h', ⟨k + 1, y :: base⟩, s, keepK k b, rfl, hf, by simp [hk], Nat.succ_pos _, fun i z hz => ?_, fun i j u v hi hj _ _ hij => ?_, hw, fun g' => ⟨rfl, ⟨g', by rw [tl_len]⟩, rfl⟩⟩
  · rcases blkK1 hk hz with ⟨hi, hz'⟩ | ⟨rfl, rfl⟩
    · obtain ⟨q1, q2⟩ := hx i z hz'
      exact ⟨q2, z, [], by unfold keepK; rw [if_pos (blt_iff.2 hi)]; exact q1, rfl, by simp⟩
    · exact ⟨sy, z, [], by unfold keepK; rw [if_neg (by rw [blt_iff]; omega)]; exact hy, rfl, by simp⟩
  · unfold keepK at hij
    rcases blkK1 hk hi with ⟨h1, _⟩ | ⟨rfl, _⟩ <;> rcases blkK1 hk hj with ⟨h2, _⟩ | ⟨rfl, _⟩
    · rw [if_pos (blt_iff.2 h1), if_pos (blt_iff.2 h2)] at hij; exact hij
    · rw [if_pos (blt_iff.2 h1), if_neg (by rw [blt_iff]; omega)] at hij; omega
    · rw [if_pos (blt_iff.2 h2), if_neg (by rw [blt_iff]; omega)] at hij; omega
    · rfl
/-- a call with rows whose answer holds no address, and that keeps no block -/
theorem row_calls0 {T : Tab} {f : Nat} {F : Func} {c : Code} (hF : T.P.funcs[f]? = some F) (hc : F.body = some c) {h0 : Hp} (hr : h0.rows) {vals : List Value} (hvals : ∀ v ∈ vals, lt h0.n v = true) {v : Value} (hv : lt 0 v = true)
    (hrun : RunsW T c (vals ++ List.replicate (F.ntmps - vals.length) undef, h0, []) fun e y => (e = none ∨ e = some none) ∧ resS T.P F y.1 y.2.1 = some v)
    {m : Mp} {B : Nat} {h : Hp} {w : World} (E : Emb m B h w) {s : Nat → Nat} (hf : h0.fits s h) :
    Calls T.P f ((vals.map (rn s)).map (mv m)).toArray w fun e w' => ∃ m', e = .returned (mv m' v) ∧ Came m B h w v h m' w' := by
  have E0 := E.small hr hf
  have ev : (vals.map (rn s)).map (mv m) = vals.map (mv fun i => m (s i)) := by
    rw [List.map_map]
    exact List.map_congr_left fun y _ => mv_rn m s y
  rw [ev]
  refine calls_of_wp hF hc ?_
  have R : Rel (fun i => m (s i)) w.heap.size (vals ++ List.replicate (F.ntmps - vals.length) undef, h0, []) { tmps := (vals.map (mv fun i => m (s i))).toArray ++ Array.replicate (F.ntmps - (vals.map (mv fun i => m (s i))).toArray.size) undef, defers := [] } w := by
    refine ⟨?_, rfl, E0, ?_⟩
    · simp [mv_undef]
    · intro y hy
      rcases List.mem_append.1 hy with hy | hy
      · exact hvals y hy
      · rw [List.eq_of_mem_replicate hy]; simp [undef, lt]
  refine hrun _ _ _ w R _ fun e y he m1 a' w' k2 k3 => ?_
  obtain ⟨hex, hres⟩ := he
  obtain ⟨r1, r2⟩ := resS_run k2.emb k2.wf hres
  rw [← k2.tmps, mv_still hv] at r1
  have td : Tidy w w' := ⟨k3, fun k h1 h2 => k2.emb.ice k h1 h2⟩
  obtain ⟨E', hb⟩ := clean_emb E td
  have post : a'.defers = [] ∧ ∃ v', (results F a'.tmps).run T.P w' = .ok v' w' ∧ ∃ m', Ending.returned v' = .returned (mv m' v) ∧ Came m B h w v h m' w' :=
    ⟨k2.dfr, _, r1, m, by rw [mv_still hv], ⟨Agree.refl _ _, E', hb, Nat.le_refl _, lt_mono (Nat.zero_le _) hv⟩⟩
  rcases hex with rfl | rfl <;> exact post
end Go.KRun
