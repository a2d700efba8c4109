/-
  RunY, ConV1, ConV2, ConV3, ConV4
-/
import Derived.Test.YtekebccjflilnaaG15
namespace Go.KRun
open Go.RowKit
theorem compact {m : Mp} {B : Nat} {t t' : List Value} {h h' : Hp} {s : List Dec} {a : Act} {w : World} (R : Rel m B (t, h, s) a w) (f : Nat → Nat) (hl : h'.l.length = h'.n)
    (hb : ∀ i x, h'.blk? i = some x → (∀ v ∈ x.1, still v = true) ∧ ∃ y r, h.blk? (f i) = some y ∧ y.2 = x.2 ∧ y.1 = x.1 ++ r)
    (hi : ∀ i j x y, h'.blk? i = some x → h'.blk? j = some y → ro x.2 = false ∨ spK x.2 = true → ro y.2 = false ∨ spK y.2 = true → f i = f j → i = j)
    (ht : t'.map (mv fun i => m (f i)) = t.map (mv m)) (hw : ∀ v ∈ t', lt h'.n v = true) : Rel (fun i => m (f i)) B (t', h', s) a w := by
  have E := R.emb
  refine ⟨by rw [R.tmps]; simp only; rw [ht], R.dfr, ?_, hw⟩
  refine ⟨hl, ?_, ?_, ?_, ?_, ?_, E.base, E.ice, ?_⟩
  · intro b x hx ht
    obtain ⟨q1, y, r, q2, q3, q4⟩ := hb b x hx
    obtain ⟨r0, z, e1, e2, e3⟩ := E.lies (f b) y q2 (by rw [q3]; exact ht)
    rw [q4, List.map_append, still_map (m' := fun i => m (f i)) q1] at e1 e2
    refine ⟨r.map (mv1 m) ++ r0, z, by rw [← e1]; simp; omega, by rw [e2, List.append_assoc], by rw [← q3]; exact e3⟩
  · intro b x hx hr
    obtain ⟨_, y, r, q2, q3, _⟩ := hb b x hx
    exact E.low (f b) y q2 (by rw [q3]; exact hr)
  · intro b x hx ht hr
    obtain ⟨_, y, r, q2, q3, _⟩ := hb b x hx
    exact E.ros (f b) y q2 (by rw [q3]; exact ht) (by rw [q3]; exact hr)
  · intro b b' x x' hx hx' hr hr' he
    obtain ⟨_, y, r, q2, q3, _⟩ := hb b x hx
    obtain ⟨_, y', r', q2', q3', _⟩ := hb b' x' hx'
    exact hi b b' x x' hx hx' (.inl hr) (.inl hr') (E.inj _ _ y y' q2 q2' (by rw [q3]; exact hr) (by rw [q3']; exact hr') he)
  · intro b x hx v hv
    exact still_lt (Nat.lt_of_le_of_lt (Nat.zero_le _) (Hp.blk_lt hx)) ((hb b x hx).1 v hv)
  · intro b x hx ha
    obtain ⟨q1, y, r, q2, q3, q4⟩ := hb b x hx
    exact (E.abs (f b) y q2 (by rw [q3]; exact ha)).ren (f := f) (r := r.map (mv1 m)) q3 (by rw [q4, List.map_append, still_map (m' := fun i => m (f i)) q1]) (fun c z hz => by
      obtain ⟨_, y', _, q2', q3', _⟩ := hb c z hz
      exact ⟨y', q2', q3'⟩) fun c z hz hs hs' hc => hi c b z x hz hx (.inr hs) (.inr hs') hc
/-- the temporaries that are needed, with their blocks' new numbers; the others as the world has them -/
theorem anew {m : Mp} (f : Nat → Nat) {front front' rest : List Value} (h : front'.map (rn f) = front) : (front' ++ rest.map (fun v => Value.iface dead (mv m v))).map (mv fun i => m (f i)) = (front ++ rest).map (mv m) := by
  rw [List.map_append, List.map_append, ← h, List.map_map, List.map_map]
  congr 1
  · exact List.map_congr_left fun v _ => (mv_rn m f v).symm
/-- the memory made small behind a piece of code -/
theorem RunsW.small {T : Tab} {c : Code} {x : Lf} {P : Ex → Lf → Prop} (hr : RunsW T c x P) {P' : Ex → Lf → Prop}
    (hp : ∀ e y, P e y → P' e y ∨ ∃ (front front' rest : List Value) (h h' : Hp) (s : List Dec) (f : Nat → Nat), y = (front ++ rest, h, s) ∧ front'.map (rn f) = front ∧ h'.l.length = h'.n ∧ 0 < h'.n ∧
      (∀ i x, h'.blk? i = some x → (∀ v ∈ x.1, still v = true) ∧ ∃ y r, h.blk? (f i) = some y ∧ y.2 = x.2 ∧ y.1 = x.1 ++ r) ∧
      (∀ i j x y, h'.blk? i = some x → h'.blk? j = some y → ro x.2 = false ∨ spK x.2 = true → ro y.2 = false ∨ spK y.2 = true → f i = f j → i = j) ∧ (∀ v ∈ front', lt h'.n v = true) ∧ ∀ g, P' e (front' ++ tl rest.length g, h', s)) : RunsW T c x P' := by
  intro m B a w R Q hQ
  refine hr m B a w R Q fun e y he m' a' w' R' hb' => ?_
  rcases hp e y he with h1 | ⟨front, front', rest, h, h', s, f, rfl, e1, e2, e3, e4, e5, e6, e7⟩
  · exact hQ e y h1 m' a' w' R' hb'
  · obtain ⟨g, hg⟩ := tl_of (J := rest.map (fun v => Value.iface dead (mv m' v))) (n := rest.length) (by simp)
    refine hQ e _ (e7 g) _ a' w' (compact R' f e2 e4 e5 (by rw [← hg]; exact anew f e1) ?_) hb'
    intro v hv
    rw [← hg] at hv
    rcases List.mem_append.1 hv with hv | hv
    · exact e6 v hv
    · obtain ⟨u, _, rfl⟩ := List.mem_map.1 hv
      simp [lt, lt2, lt1, e3, dead]
/-- a 'for', its memory made small behind each round -/
theorem RunsW.forLoop {T : Tab} {c : Code} {id : Nat} {x : Lf} {P : Lf → Prop} {R : Lf → Prop} (Inv : Nat → Lf → Prop)
    (round : ∀ n x, Inv n x → RunsW T c x fun e y => match e with | none => ∃ n', n' < n ∧ Inv n' y | some none => R y | some (some id') => id' = id ∧ P y) {n : Nat} (h0 : Inv n x) :
    RunsW T (.block id (.loop c)) x fun e y => match e with | none => P y | some none => R y | some (some _) => False := by
  refine RunsW.block (P1 := fun e y => match e with | none => False | some none => R y | some (some id') => id' = id ∧ P y) ?_ (fun y he => he.elim) (fun y he => he) (fun y he => he.2) (fun id' y hid he => absurd he.1 hid)
  refine RunsW.loop Inv (fun n x hI => (round n x hI).mono fun e y he => ?_) h0
  match e, he with
  | none, he => exact he
  | some none, he => exact he
  | some (some id'), he => exact he
theorem goesT_runsW {T : Tab} (hT : TabOk T) {N : Nat} {c : Code} {t : List Value} {h h' : Hp} {s s0 : List Dec} {k n : Nat} {e : Ex} {front : List Value} {cs : Log} (hG : GoesT (evC T N false c (t, h, s) ⟨[], [], []⟩) k n e front h' cs) (hcs : okLog cs) :
    RunsW T c (t, h, s0) fun e' y => e' = e ∧ (∃ g, y.1 = front ++ tl n g) ∧ y.2.1 = h' := (goesT_runs hT hG hcs).w
theorem tl_len (n : Nat) (g : Nat → Value) : (tl n g).length = n := by simp [tl]
theorem blkTwo {x y : List Value × TypeId} {i : Nat} {z : List Value × TypeId} (h : (⟨2, [y, x]⟩ : Hp).blk? i = some z) : (i = 0 ∧ z = x) ∨ (i = 1 ∧ z = y) := by
  have : i < 2 := Hp.blk_lt h
  have : i = 0 ∨ i = 1 := by omega
  rcases this with rfl | rfl
  · exact .inl ⟨rfl, (Option.some.inj h).symm⟩
  · exact .inr ⟨rfl, (Option.some.inj h).symm⟩
/-- the first blocks of a memory kept, and another one -/
def keepK (k b : Nat) (i : Nat) : Nat := if Nat.blt i k = true then i else b
theorem blkK1 {base : List (List Value × TypeId)} {k : Nat} (hk : base.length = k) {y : List Value × TypeId} {i : Nat} {z : List Value × TypeId} (h : (⟨k + 1, y :: base⟩ : Hp).blk? i = some z) : (i < k ∧ (⟨k, base⟩ : Hp).blk? i = some z) ∨ (i = k ∧ z = y) := by
  have hi : i < k + 1 := Hp.blk_lt h
  by_cases h0 : i = k
  · subst h0
    have : (⟨i + 1, y :: base⟩ : Hp).blk? i = some y := by
      unfold Hp.blk?
      rw [if_pos (blt_iff.2 (by show i < i + 1; omega))]
      show (y :: base)[i + 1 - 1 - i]? = some y
      rw [show i + 1 - 1 - i = 0 from by omega]
      rfl
    rw [this] at h
    exact .inr ⟨rfl, (Option.some.inj h).symm⟩
  · refine .inl ⟨by omega, ?_⟩
    unfold Hp.blk? at h ⊢
    rw [if_pos (blt_iff.2 (by show i < k + 1; omega))] at h
    rw [if_pos (blt_iff.2 (by show i < k; omega))]
    have e : k + 1 - 1 - i = (k - 1 - i) + 1 := by omega
    have h' : (y :: base)[k + 1 - 1 - i]? = some z := h
    rw [e, List.getElem?_cons_succ] at h'
    exact h'
/-- behind a round: the first blocks and one more are kept -/
theorem RunsW.kept {T : Tab} {c : Code} {x0 : Lf} {ex : Ex} {front front' : List Value} {n k b : Nat} {h : Hp} {base : List (List Value × TypeId)} {y : List Value × TypeId} (hr : RunsW T c x0 fun e z => e = ex ∧ (∃ g, z.1 = front ++ tl n g) ∧ z.2.1 = h)
    (hk : base.length = k) (hf : front'.map (rn (keepK k b)) = front) (hx : ∀ i x, (⟨k, base⟩ : Hp).blk? i = some x → h.blk? i = some x ∧ ∀ v ∈ x.1, still v = true) (hy : h.blk? b = some y) (hb : k ≤ b) (sy : ∀ v ∈ y.1, still v = true) (hw : ∀ v ∈ front', lt (k + 1) v = true) :
    RunsW T c x0 fun e z => e = ex ∧ (∃ g, z.1 = front' ++ tl n g) ∧ z.2.1 = ⟨k + 1, y :: base⟩ := by
  refine hr.small fun e z he => .inr ?_
  obtain ⟨rfl, ⟨g, h1⟩, h2⟩ := he
  obtain ⟨t, h', s⟩ := z
  simp only at h1 h2
  subst h1 h2
  refine ⟨front, front', tl n g, h', ⟨k + 1, y :: base⟩, s, keepK k b, rfl, hf, by simp [hk], Nat.succ_pos _, fun i z hz => ?_, fun i j u v hi hj _ _ hij => ?_, hw, fun g' => ⟨rfl, ⟨g', by rw [tl_len]⟩, rfl⟩⟩
  · rcases blkK1 hk hz with ⟨hi, hz'⟩ | ⟨rfl, rfl⟩
    · obtain ⟨q1, q2⟩ := hx i z hz'
      exact ⟨q2, z, [], by unfold keepK; rw [if_pos (blt_iff.2 hi)]; exact q1, rfl, by simp⟩
    · exact ⟨sy, z, [], by unfold keepK; rw [if_neg (by rw [blt_iff]; omega)]; exact hy, rfl, by simp⟩
  · unfold keepK at hij
    rcases blkK1 hk hi with ⟨h1, _⟩ | ⟨rfl, _⟩ <;> rcases blkK1 hk hj with ⟨h2, _⟩ | ⟨rfl, _⟩
    · rw [if_pos (blt_iff.2 h1), if_pos (blt_iff.2 h2)] at hij; exact hij
    · rw [if_pos (blt_iff.2 h1), if_neg (by rw [blt_iff]; omega)] at hij; omega
    · rw [if_pos (blt_iff.2 h2), if_neg (by rw [blt_iff]; omega)] at hij; omega
    · rfl
/-- a call with rows whose answer holds no address, and that keeps no block -/
theorem row_calls0 {T : Tab} {f : Nat} {F : Func} {c : Code} (hF : T.P.funcs[f]? = some F) (hc : F.body = some c) {h0 : Hp} (hr : h0.rows) {vals : List Value} (hvals : ∀ v ∈ vals, lt h0.n v = true) {v : Value} (hv : lt 0 v = true)
    (hrun : RunsW T c (vals ++ List.replicate (F.ntmps - vals.length) undef, h0, []) fun e y => (e = none ∨ e = some none) ∧ resS T.P F y.1 y.2.1 = some v)
    {m : Mp} {B : Nat} {h : Hp} {w : World} (E : Emb m B h w) {s : Nat → Nat} (hf : h0.fits s h) :
    Calls T.P f ((vals.map (rn s)).map (mv m)).toArray w fun e w' => ∃ m', e = .returned (mv m' v) ∧ Came m B h w v h m' w' := by
  have E0 := E.small hr hf
  have ev : (vals.map (rn s)).map (mv m) = vals.map (mv fun i => m (s i)) := by
    rw [List.map_map]
    exact List.map_congr_left fun y _ => mv_rn m s y
  rw [ev]
  refine calls_of_wp hF hc ?_
  have R : Rel (fun i => m (s i)) w.heap.size (vals ++ List.replicate (F.ntmps - vals.length) undef, h0, []) { tmps := (vals.map (mv fun i => m (s i))).toArray ++ Array.replicate (F.ntmps - (vals.map (mv fun i => m (s i))).toArray.size) undef, defers := [] } w := by
    refine ⟨?_, rfl, E0, ?_⟩
    · simp [mv_undef]
    · intro y hy
      rcases List.mem_append.1 hy with hy | hy
      · exact hvals y hy
      · rw [List.eq_of_mem_replicate hy]; simp [undef, lt]
  refine hrun _ _ _ w R _ fun e y he m1 a' w' k2 k3 => ?_
  obtain ⟨hex, hres⟩ := he
  obtain ⟨r1, r2⟩ := resS_run k2.emb k2.wf hres
  rw [← k2.tmps, mv_still hv] at r1
  have td : Tidy w w' := ⟨k3, fun k h1 h2 => k2.emb.ice k h1 h2⟩
  obtain ⟨E', hb⟩ := clean_emb E td
  have post : a'.defers = [] ∧ ∃ v', (results F a'.tmps).run T.P w' = .ok v' w' ∧ ∃ m', Ending.returned v' = .returned (mv m' v) ∧ Came m B h w v h m' w' :=
    ⟨k2.dfr, _, r1, m, by rw [mv_still hv], ⟨Agree.refl _ _, E', hb, Nat.le_refl _, lt_mono (Nat.zero_le _) hv⟩⟩
  rcases hex with rfl | rfl <;> exact post
end Go.KRun
namespace Go.Proofs.Ytekebccjflilnaa
open Go.KRun Go.Nt
set_option maxRecDepth 100000
def uPre (F : Func) : List Code := [cFst (cBody F), cFst (cSnd (cBody F))]
def uLoop (F : Func) : Code := cIn (cIn (cFst (cSnd (cSnd (cBody F)))))
def uEnd (F : Func) : Code := cSnd (cSnd (cSnd (cBody F)))
theorem utrim_body : Try.f98.body = some (seqs (uPre Try.f98) (.seq (.block 0 (.loop (uLoop Try.f98))) (uEnd Try.f98))) := by kernel_rfl
theorem utr_pre (p : Option Addr) (n c : Nat) (h : Hp) : GoesT (evL (tabOf Try.prog extY conN true) 100 (uPre Try.f98) ([.slice p n c] ++ List.replicate 21 undef, h, []) ⟨[], [], []⟩) 4 18 none [.slice p n c, undef, nilS, .int .i64 n] h [] := ⟨by kernel_rfl, by kernel_rfl, by kernel_rfl⟩
def i1 (k : Int) : Int := IntKind.i64.wrap (k - 1)
theorem utr_go (o n c : Nat) (k x : Int) (l : List Value) (j1 j2 : Value) (g : Nat → Value) : GoesT (evC (tabOf Try.prog extY conN true) 100 false (uLoop Try.f98) ([sl 0 o n c, j1, j2, .int .i64 k] ++ tl 18 g, ⟨1, [(l, tR)]⟩, [cmp true, at_, val (.int .u32 x), cmp true]) ⟨[], [], []⟩) 4 18 none [sl 0 o n c, j1, j2, .int .i64 (i1 k)] ⟨1, [(l, tR)]⟩
    [(x == 0, true), (cellIs (l[o + (i1 k).toNat * 1]?) (.int .u32 x), true), (decide (0 ≤ i1 k ∧ i1 k < n), true), (decide (k > 0), true)] := ⟨by kernel_rfl, by kernel_rfl, by kernel_rfl⟩
theorem utr_out1 (o n c : Nat) (k x : Int) (l : List Value) (j1 j2 : Value) (g : Nat → Value) : GoesT (evC (tabOf Try.prog extY conN true) 100 false (uLoop Try.f98) ([sl 0 o n c, j1, j2, .int .i64 k] ++ tl 18 g, ⟨1, [(l, tR)]⟩, [cmp true, at_, val (.int .u32 x), cmp false]) ⟨[], [], []⟩) 4 18 (some (some 0)) [sl 0 o n c, j1, j2, .int .i64 k] ⟨1, [(l, tR)]⟩
    [(x == 0, false), (cellIs (l[o + (i1 k).toNat * 1]?) (.int .u32 x), true), (decide (0 ≤ i1 k ∧ i1 k < n), true), (decide (k > 0), true)] := ⟨by kernel_rfl, by kernel_rfl, by kernel_rfl⟩
theorem utr_out0 (v : Value) (k : Int) (h : Hp) (j1 j2 : Value) (g : Nat → Value) : GoesT (evC (tabOf Try.prog extY conN true) 100 false (uLoop Try.f98) ([v, j1, j2, .int .i64 k] ++ tl 18 g, h, [cmp false]) ⟨[], [], []⟩) 4 18 (some (some 0)) [v, j1, j2, .int .i64 k] h [(decide (k > 0), false)] := ⟨by kernel_rfl, by kernel_rfl, by kernel_rfl⟩
theorem utr_end (o n c k : Nat) (l : List Value) (j1 j2 : Value) (g : Nat → Value) : GoesT (evC (tabOf Try.prog extY conN true) 100 false (uEnd Try.f98) ([sl 0 o n c, j1, j2, .int .i64 k] ++ tl 18 g, ⟨1, [(l, tR)]⟩, [num 0]) ⟨[], [], []⟩) 4 18 (some none) [sl 0 o n c, j1, sl 0 o k k, .int .i64 k] ⟨1, [(l, tR)]⟩
    [(smallC c, true), (okPart 0 k k c, true), (decide ((k : Int) = 0 ∧ (0 : Int) ≠ 0), false)] := ⟨by kernel_rfl, by kernel_rfl, by kernel_rfl⟩
theorem utr_endg (n k : Nat) (l : List Value) (j1 j2 : Value) (g : Nat → Value) : GoesT (evC (tabOf Try.prog extY conN true) 100 false (uEnd Try.f98) ([sl 0 0 n grown, j1, j2, .int .i64 k] ++ tl 18 g, ⟨1, [(l, tR)]⟩, [at_]) ⟨[], [], []⟩) 4 18 (some none) [sl 0 0 n grown, j1, sl 0 0 k k, .int .i64 k] ⟨1, [(l, tR)]⟩
    [(okPart 0 k k n, true), (decide ((k : Int) = 0 ∧ (0 : Int) ≠ 0), false), (!(tomb tR) && Nat.ble n l.length, true)] := ⟨by kernel_rfl, by kernel_rfl, by kernel_rfl⟩
/-- a capacity that is known, or the whole block's -/
def capOk (o n c : Nat) : Bool := (smallC c && Nat.ble n c) || (Nat.beq c grown && Nat.beq o 0)
theorem utrim_runs {l : List Value} {o c : Nat} {L : List Int} (hR : Row l o L) (hL : L.length < 4611686018427387904) (hc : capOk o L.length c = true) :
    Runs (tabOf Try.prog extY conN true) (seqs (uPre Try.f98) (.seq (.block 0 (.loop (uLoop Try.f98))) (uEnd Try.f98))) ([sl 0 o L.length c] ++ List.replicate 21 undef, ⟨1, [(l, tR)]⟩, []) fun e y => (e = none ∨ e = some none) ∧ resS Try.prog Try.f98 y.1 y.2.1 = some (sl 0 o (trimN L) (trimN L)) := by
  refine goesT_list (tabY_ok conN_ok) (utr_pre _ _ _ _) (fun x hx => by cases hx) fun g => ?_
  refine Runs.seq (P1 := fun e y => e = none ∧ (∃ g, y.1 = [sl 0 o L.length c, undef, nilS, .int .i64 (trimN L : Nat)] ++ tl 18 g) ∧ y.2.1 = ⟨1, [(l, tR)]⟩) ?_ ?_ (fun e y he => by cases he.1)
  · refine (Runs.forLoop (P := fun y => (∃ g, y.1 = [sl 0 o L.length c, undef, nilS, .int .i64 (trimN L : Nat)] ++ tl 18 g) ∧ y.2.1 = ⟨1, [(l, tR)]⟩) (R := fun _ => False) (fun n y => (∃ g, y.1 = [sl 0 o L.length c, undef, nilS, .int .i64 (n : Nat)] ++ tl 18 g) ∧ y.2.1 = ⟨1, [(l, tR)]⟩ ∧ n ≤ L.length ∧ ∀ i, n ≤ i → L.getD i 0 = 0) ?_ (n := L.length) ⟨⟨g, rfl⟩, rfl, Nat.le_refl _, fun i hi => by simp [List.getD, List.getElem?_eq_none hi]⟩).mono fun e y he => ?_
    · rintro n ⟨t, h', s⟩ ⟨⟨g, ht⟩, hh, hle, hz⟩
      simp only at ht hh
      subst ht hh
      cases n with
      | zero =>
        refine (goesT_runs (tabY_ok conN_ok) (utr_out0 _ _ _ undef nilS g) (okOne (by rfl))).mono fun e y he => ?_
        obtain ⟨rfl, ⟨g', h2⟩, h3⟩ := he
        have e0 : trimN L = 0 := trimN_uniq hz (.inl rfl)
        exact ⟨rfl, ⟨g', by rw [h2, e0]⟩, h3⟩
      | succ k =>
        have ek : i1 ((k + 1 : Nat) : Int) = (k : Int) := by
          unfold i1
          rw [wrapI (by omega) (by omega)]
          omega
        have hcell := hR.cell (k := k) (by omega)
        have hce : cellIs (l[o + (i1 ((k + 1 : Nat) : Int)).toNat * 1]?) (.int .u32 (L.getD k 0)) = true := by
          rw [ek, Int.toNat_natCast, Nat.mul_one, hcell]
          simp [cellIs]
        have hix : decide (0 ≤ i1 ((k + 1 : Nat) : Int) ∧ i1 ((k + 1 : Nat) : Int) < (L.length : Int)) = true := by rw [ek]; exact decide_eq_true (by omega)
        have hgt : decide (((k + 1 : Nat) : Int) > 0) = true := decide_eq_true (by omega)
        by_cases hx : L.getD k 0 = 0
        · refine (goesT_runs (tabY_ok conN_ok) (utr_go o L.length c ((k + 1 : Nat) : Int) (L.getD k 0) l undef nilS g) (okTwo (by rw [hx]; rfl) (okTwo hce (okTwo hix (okOne hgt))))).mono fun e y he => ?_
          obtain ⟨rfl, ⟨g', h2⟩, h3⟩ := he
          rw [ek] at h2
          refine ⟨k, by omega, ⟨g', h2⟩, h3, by omega, fun i hi => ?_⟩
          rcases Nat.lt_or_ge k i with h | h
          · exact hz i h
          · have : i = k := by omega
            rw [this]; exact hx
        · refine (goesT_runs (tabY_ok conN_ok) (utr_out1 o L.length c ((k + 1 : Nat) : Int) (L.getD k 0) l undef nilS g) (okTwo (by simpa using hx) (okTwo hce (okTwo hix (okOne hgt))))).mono fun e y he => ?_
          obtain ⟨rfl, ⟨g', h2⟩, h3⟩ := he
          have e0 : trimN L = k + 1 := trimN_uniq hz (.inr (by simpa using hx))
          exact ⟨rfl, ⟨g', by rw [h2, e0]⟩, h3⟩
    · match e, he with
      | none, he => exact ⟨rfl, he⟩
  · rintro ⟨t, h', s⟩ ⟨_, ⟨g', ht⟩, hh⟩
    simp only at ht hh
    subst ht hh
    have hle := trimN_le L
    have hp : okPart 0 (trimN L : Nat) (trimN L : Nat) (L.length : Nat) = true := by unfold okPart; exact decide_eq_true (by omega)
    unfold capOk at hc
    simp only [Bool.or_eq_true, Bool.and_eq_true] at hc
    rcases hc with ⟨h1, h2⟩ | ⟨h1, h2⟩
    · have h2 := Nat.le_of_ble_eq_true h2
      have h1' : c < 4611686018427387904 := blt_iff.1 h1
      refine (goesT_runs (tabY_ok conN_ok) (utr_end o L.length c (trimN L) l undef nilS g') (okTwo h1 (okTwo (by unfold okPart; exact decide_eq_true (by omega)) (okOne (decide_eq_false (by omega)))))).mono fun e y he => ?_
      obtain ⟨rfl, ⟨g2, h2⟩, h3⟩ := he
      refine ⟨.inr rfl, ?_⟩
      rw [h2, h3]
      rfl
    · have h1 := Nat.eq_of_beq_eq_true h1
      have h2 := Nat.eq_of_beq_eq_true h2
      subst h1 h2
      have hlen := hR.len
      refine (goesT_runs (tabY_ok conN_ok) (utr_endg L.length (trimN L) l undef nilS g') (okTwo hp (okTwo (decide_eq_false (by omega)) (okOne (by
        rw [tR_tomb, Nat.ble_eq_true_of_le (by omega)]; rfl))))).mono fun e y he => ?_
      obtain ⟨rfl, ⟨g2, h2⟩, h3⟩ := he
      refine ⟨.inr rfl, ?_⟩
      rw [h2, h3]
      rfl
/-- a row of words, its capacity known or the whole block's -/
def rowC (ty : TypeId) (l : List Value) (o n c : Nat) : Bool := !(tomb ty) && Nat.beq (rt ty) tU && Nat.ble (o + n) l.length && Nat.blt n 4611686018427387904 && capOk o n c && (cutV l o n).all isU && l.all still
theorem rowC_of {ty : TypeId} {l : List Value} {o n c : Nat} (h : rowC ty l o n c = true) : Row l o (cutI l o n) ∧ (cutI l o n).length = n ∧ n < 4611686018427387904 ∧ capOk o n c = true ∧ tomb ty = false ∧ rt ty = tU ∧ ∀ v ∈ l, still v = true := by
  unfold rowC at h
  simp only [Bool.and_eq_true, Bool.not_eq_true'] at h
  obtain ⟨⟨⟨⟨⟨⟨h1, h2⟩, h3⟩, h4⟩, h5⟩, h6⟩, h7⟩ := h
  have h2 := Nat.eq_of_beq_eq_true h2
  have h3 := Nat.le_of_ble_eq_true h3
  have h4 := blt_iff.1 h4
  have hlen : (cutI l o n).length = n := by unfold cutI cutV; simp; omega
  refine ⟨⟨by rw [hlen]; exact h3, by rw [hlen]; exact cutV_words h6, fun x hx => ?_⟩, hlen, h4, h5, h1, h2, List.all_eq_true.1 h7⟩
  unfold cutI at hx
  obtain ⟨v, hv, rfl⟩ := List.mem_map.1 hx
  have := isU_spec (List.all_eq_true.1 h6 v hv)
  exact ⟨this.2.1, this.2.2⟩
theorem utrim_nil : Fits (reckon (tabOf Try.prog extY conN true) 100 98 [nilS] []) nilS [] := ⟨by kernel_rfl, by kernel_rfl, by kernel_rfl, by kernel_rfl⟩
def gUtrim : AnsH := fun vals h s =>
  match vals with
  | [.slice none 0 0] => some (nilS, h, s, [])
  | [.slice (some ⟨b, o, none⟩) n c] =>
    match h.blk? b with
    | some x => some (sl b o (trimN (cutI x.1 o n)) (trimN (cutI x.1 o n)), h, s, [(rowC x.2 x.1 o n c, true)])
    | none => none
  | _ => none
theorem gUtrim_ok : AnsHOk 98 gUtrim := by
  intro vals h s v h' s' lg hg hl m B w E hv
  unfold gUtrim at hg
  split at hg
  · cases hg
    refine (fits_calls (tabY_ok conN_ok) utrim_nil (fun x hx => by cases hx) (by rfl) (by rfl) w).mono fun e w' he => ?_
    obtain ⟨E', hb⟩ := clean_emb E he.2
    exact ⟨m, he.1, ⟨Agree.refl _ _, E', hb, Nat.le_refl _, rfl⟩⟩
  · rename_i b o n c
    split at hg
    · rename_i x hx
      cases hg
      obtain ⟨h1, h2, h3, h4, h5, h6, h7⟩ := rowC_of (hl _ (List.mem_singleton.2 rfl))
      have hlt := Hp.blk_lt hx
      have r := utrim_runs (c := c) h1 (by rw [h2]; exact h3) (by rw [h2]; exact h4)
      rw [h2] at r
      have := row_calls (T := tabOf Try.prog extY conN true) Try.func98 utrim_body (rows1 h7) (vals := [sl 0 o n c]) (fun v hv => by rw [List.mem_singleton.1 hv]; rfl) (by rfl) r E (s := fun _ => b) (fun i _ => hlt) (fitsR1 hx h5 h6 rfl)
      exact this.mono fun e w' he => ⟨m, he.1, he.2⟩
    · cases hg
  · cases hg
def hcU : Hc := altH 98 gUtrim hcN
theorem hcU_ok : HcOk hcU := altH_ok Try.func98 rfl gUtrim_ok hcN_ok
theorem wU_still (L : List Int) : ∀ v ∈ wU L, still v = true := fun v hv => by
  unfold wU at hv
  obtain ⟨x, _, rfl⟩ := List.mem_map.1 hv
  rfl
theorem wU_one (L : List Int) : (wU L).all one = true := List.all_eq_true.2 fun v hv => by
  unfold wU at hv
  obtain ⟨x, _, rfl⟩ := List.mem_map.1 hv
  rfl
theorem wU_append (L M : List Int) : wU (L ++ M) = wU L ++ wU M := by simp [wU]
theorem wU_len (L : List Int) : (wU L).length = L.length := by simp [wU]
theorem cut_wU (L : List Int) : cutI (wU L) 0 L.length = L := by
  unfold cutI cutV
  rw [List.drop_zero, ← wU_len, List.take_length]
  unfold wU
  rw [List.map_map]
  exact List.map_id' _
theorem rowC_wU {L : List Int} (h : ∀ x ∈ L, 0 ≤ x ∧ x < 4294967296) (hl : L.length < 4611686018427387904) {c : Nat} (hc : capOk 0 L.length c = true) : rowC tU (wU L) 0 L.length c = true := by
  unfold rowC
  have e1 : tomb tU = false := by kernel_rfl
  have e2 : Nat.beq (rt tU) tU = true := by kernel_rfl
  have e3 : Nat.ble (0 + L.length) (wU L).length = true := Nat.ble_eq_true_of_le (by rw [wU_len]; omega)
  have e4 : Nat.blt L.length 4611686018427387904 = true := blt_iff.2 hl
  have e5 : ((cutV (wU L) 0 L.length).all isU) = true := by
    unfold cutV
    rw [List.drop_zero, ← wU_len, List.take_length]
    refine List.all_eq_true.2 fun v hv => ?_
    unfold wU at hv
    obtain ⟨x, hx, rfl⟩ := List.mem_map.1 hv
    exact decide_eq_true (h x hx)
  have e6 : ((wU L).all still) = true := List.all_eq_true.2 fun v hv => by
    unfold wU at hv
    obtain ⟨x, _, rfl⟩ := List.mem_map.1 hv
    rfl
  rw [e1, e2, e3, e4, hc, e5, e6]
  rfl
theorem appChk_of {L M : List Int} {k : Nat} (hk : k = L.length) (hM : 0 < M.length) (hb : L.length + M.length ≤ 1073741824) : appChk tU (wU L, tU) (wU M, tU) k 0 M.length = true := by
  subst hk
  unfold appChk
  simp only [Bool.and_eq_true, Bool.not_eq_true', wU_len]
  refine ⟨⟨⟨⟨⟨⟨⟨⟨Nat.beq_refl _, Nat.ble_eq_true_of_le hb⟩, by kernel_rfl⟩, by kernel_rfl⟩, by kernel_rfl⟩, by kernel_rfl⟩, Nat.ble_eq_true_of_le (by omega)⟩, blt_iff.2 hM⟩, ?_⟩
  rw [List.drop_zero, ← wU_len, List.take_length]
  exact wU_one M
theorem capG (n : Nat) : capOk 0 n grown = true := by unfold capOk; rw [show Nat.beq grown grown = true from by kernel_rfl, show Nat.beq 0 0 = true from rfl]; simp
theorem getD_get {L : List Int} {k : Nat} (h : k < L.length) : L.getD k 0 = L[k] := by simp [List.getD, List.getElem?_eq_getElem h]
theorem seqW3 {T : Tab} {a b c : Code} {x : Lf} {P1 P2 P : Ex → Lf → Prop} (h1 : RunsW T a x P1) (n1 : ∀ e y, P1 (some e) y → False) (h2 : ∀ y, P1 none y → RunsW T b y P2) (n2 : ∀ e y, P2 (some e) y → False) (h3 : ∀ y, P2 none y → RunsW T c y P) : RunsW T (.seq (.seq a b) c) x P :=
  RunsW.seq (P1 := P2) (RunsW.seq (P1 := P1) h1 h2 (fun e y he => (n1 e y he).elim)) h3 (fun e y he => (n2 e y he).elim)
def d16 (V : Nat) : List Int := db 65536 V
theorem wU_lt (L : List Int) : ∀ u ∈ wU L, lt1 0 u = true := fun v hv => by
  unfold wU at hv
  obtain ⟨x, _, rfl⟩ := List.mem_map.1 hv
  rfl
/-- the words of a row or of nothing -/
def rowOf (h : Hp) (p : Option Addr) (n : Nat) : List Int :=
  match p with
  | none => []
  | some a =>
    match h.blk? a.block with
    | some x => cutI x.1 a.off n
    | none => []
/-- it is one -/
def rowP (h : Hp) (p : Option Addr) (n c : Nat) : Bool :=
  match p with
  | none => Nat.beq n 0 && Nat.beq c 0
  | some a =>
    match a.spot, h.blk? a.block with
    | none, some x => rowC x.2 x.1 a.off n c && x.1.all still
    | _, _ => false
/-- the part at a place, 0 outside -/
def atN (L : List Int) (i : Int) : Int := if 0 ≤ i then L.getD i.toNat 0 else 0
theorem rowP_cases {h : Hp} {p : Option Addr} {n c : Nat} (hr : rowP h p n c = true) : (p = none ∧ n = 0 ∧ c = 0 ∧ rowOf h p n = []) ∨ ∃ b o x, p = some ⟨b, o, none⟩ ∧ h.blk? b = some x ∧ rowC x.2 x.1 o n c = true ∧ (∀ v ∈ x.1, still v = true) ∧ rowOf h p n = cutI x.1 o n := by
  unfold rowP at hr
  split at hr
  · simp only [Bool.and_eq_true] at hr
    exact .inl ⟨rfl, Nat.eq_of_beq_eq_true hr.1, Nat.eq_of_beq_eq_true hr.2, rfl⟩
  · rename_i a
    split at hr
    · rename_i x hs hx
      simp only [Bool.and_eq_true] at hr
      obtain ⟨b, o, sp⟩ := a
      simp only at hs hx
      subst hs
      exact .inr ⟨b, o, x, rfl, hx, hr.1, List.all_eq_true.1 hr.2, by simp [rowOf, hx]⟩
    · cases hr
theorem at_body : Try.f101.body = some (cBody Try.f101) := by kernel_rfl
theorem at_in (o n c : Nat) (i x : Int) (l : List Value) : GoesT (evC (tabOf Try.prog extY conN true) 100 false (cBody Try.f101) ([sl 0 o n c, .int .i64 i] ++ List.replicate 15 undef, ⟨1, [(l, tR)]⟩, [cmp true, cmp true, at_, val (.int .u32 x)]) ⟨[], [], []⟩) 5 12 (some none) [sl 0 o n c, .int .i64 i, undef, undef, .int .u32 x] ⟨1, [(l, tR)]⟩ [(cellIs (l[o + i.toNat * 1]?) (.int .u32 x), true), (decide (0 ≤ i ∧ i < n), true), (decide (i < n), true), (decide (i ≥ 0), true)] := ⟨by kernel_rfl, by kernel_rfl, by kernel_rfl⟩
theorem at_over (p : Option Addr) (n c : Nat) (i : Int) (h : Hp) : GoesT (evC (tabOf Try.prog extY conN true) 100 false (cBody Try.f101) ([.slice p n c, .int .i64 i] ++ List.replicate 15 undef, h, [cmp true, cmp false]) ⟨[], [], []⟩) 5 12 (some none) [.slice p n c, .int .i64 i, undef, undef, .int .u32 0] h [(decide (i < n), false), (decide (i ≥ 0), true)] := ⟨by kernel_rfl, by kernel_rfl, by kernel_rfl⟩
theorem at_under (p : Option Addr) (n c : Nat) (i : Int) (h : Hp) : GoesT (evC (tabOf Try.prog extY conN true) 100 false (cBody Try.f101) ([.slice p n c, .int .i64 i] ++ List.replicate 15 undef, h, [cmp false]) ⟨[], [], []⟩) 5 12 (some none) [.slice p n c, .int .i64 i, undef, undef, .int .u32 0] h [(decide (i ≥ 0), false)] := ⟨by kernel_rfl, by kernel_rfl, by kernel_rfl⟩
theorem at_none {p : Option Addr} {n c : Nat} {i : Int} {h : Hp} (hi : i < 0 ∨ (n : Int) ≤ i) : Runs (tabOf Try.prog extY conN true) (cBody Try.f101) ([.slice p n c, .int .i64 i] ++ List.replicate 15 undef, h, []) fun e y => (e = none ∨ e = some none) ∧ resS Try.prog Try.f101 y.1 y.2.1 = some (.int .u32 0) := by
  by_cases h0 : i < 0
  · refine (goesT_runs (tabY_ok conN_ok) (at_under p n c i h) (okOne (decide_eq_false (by omega)))).mono fun e y he => ?_
    obtain ⟨rfl, ⟨g, e2⟩, e3⟩ := he
    refine ⟨.inr rfl, ?_⟩
    rw [e2, e3]
    rfl
  · refine (goesT_runs (tabY_ok conN_ok) (at_over p n c i h) (okTwo (decide_eq_false (by omega)) (okOne (decide_eq_true (by omega))))).mono fun e y he => ?_
    obtain ⟨rfl, ⟨g, e2⟩, e3⟩ := he
    refine ⟨.inr rfl, ?_⟩
    rw [e2, e3]
    rfl
theorem at_runs {l : List Value} {o c : Nat} {L : List Int} (i : Int) (hR : Row l o L) :
    Runs (tabOf Try.prog extY conN true) (cBody Try.f101) ([sl 0 o L.length c, .int .i64 i] ++ List.replicate 15 undef, ⟨1, [(l, tR)]⟩, []) fun e y => (e = none ∨ e = some none) ∧ resS Try.prog Try.f101 y.1 y.2.1 = some (.int .u32 (atN L i)) := by
  by_cases hi : i < 0 ∨ (L.length : Int) ≤ i
  · have e0 : atN L i = 0 := by
      unfold atN
      split
      · have : L.length ≤ i.toNat := by omega
        simp [List.getD, List.getElem?_eq_none this]
      · rfl
    rw [e0]
    exact at_none hi
  · have h0 : 0 ≤ i := by omega
    have hlt : i.toNat < L.length := by omega
    have e0 : atN L i = L.getD i.toNat 0 := by unfold atN; rw [if_pos h0]
    rw [e0]
    have hc := hR.cell hlt
    refine (goesT_runs (tabY_ok conN_ok) (at_in o L.length c i (L.getD i.toNat 0) l) (okTwo (by rw [Nat.mul_one, hc]; simp [cellIs]) (okTwo (decide_eq_true (by omega)) (okTwo (decide_eq_true (by omega)) (okOne (decide_eq_true (by omega))))))).mono fun e y he => ?_
    obtain ⟨rfl, ⟨g, e2⟩, e3⟩ := he
    refine ⟨.inr rfl, ?_⟩
    rw [e2, e3]
    rfl
def gAt : AnsH := fun vals h s =>
  match vals with
  | [.slice p n c, .int .i64 i] => some (.int .u32 (atN (rowOf h p n) i), h, s, [(rowP h p n c, true)])
  | _ => none
theorem gAt_ok : AnsHOk 101 gAt := by
  intro vals h s v h' s' lg hg hl m B w E hv
  unfold gAt at hg
  split at hg
  · rename_i p n c i
    cases hg
    have q := hl _ (List.mem_singleton.2 rfl)
    simp only at q
    rcases rowP_cases q with ⟨rfl, rfl, rfl, e0⟩ | ⟨b, o, x, rfl, hx, q1, _, e0⟩
    · rw [e0]
      have hz : atN [] i = 0 := by unfold atN; split <;> simp
      rw [hz]
      have hi : i < 0 ∨ ((0 : Nat) : Int) ≤ i := by omega
      refine (calls_of_runs (T := tabOf Try.prog extY conN true) Try.func101 at_body (vals := [nilS, .int .i64 i]) (v := .int .u32 0) (by rfl) (by rfl) (at_none (p := none) (n := 0) (c := 0) (i := i) (h := ⟨0, []⟩) hi) w).mono fun e w' he => ?_
      obtain ⟨E', hb⟩ := clean_emb E he.2
      exact ⟨m, he.1, ⟨Agree.refl _ _, E', hb, Nat.le_refl _, rfl⟩⟩
    · rw [e0]
      obtain ⟨h1, h2, h3, h4, h5, h6, h7⟩ := rowC_of q1
      have hlt := Hp.blk_lt hx
      have r := at_runs (c := c) i h1
      rw [h2] at r
      have := row_calls (T := tabOf Try.prog extY conN true) Try.func101 at_body (rows1 h7) (vals := [sl 0 o n c, .int .i64 i]) (fun v hv => by
        simp only [List.mem_cons, List.not_mem_nil, or_false] at hv
        rcases hv with rfl | rfl <;> rfl) (by rfl) r E (s := fun _ => b) (fun i _ => hlt) (fitsR1 hx h5 h6 rfl)
      exact this.mono fun e w' he => ⟨m, he.1, he.2⟩
  · cases hg
def hcV : Hc := altH 101 gAt hcU
theorem hcV_ok : HcOk hcV := altH_ok Try.func101 rfl gAt_ok hcU_ok
/-- a row or nothing, in block i of a small memory -/
structure Nu (i : Nat) (x : List Value × TypeId) (p : Option Addr) (n c : Nat) (A : List Int) : Prop where
  row : ∀ h : Hp, h.blk? i = some x → rowP h p n c = true ∧ rowOf h p n = A
  pos : p = none ∨ ∃ o, p = some ⟨i, o, none⟩
  st : ∀ v ∈ x.1, still v = true
  lt0 : ∀ v ∈ x.1, still v = true
  ros : ro x.2 = true ∧ ab x.2 = false
theorem Nu.rn {i : Nat} {x : List Value × TypeId} {p : Option Addr} {n c : Nat} {A : List Int} (h : Nu i x p n c A) {f : Nat → Nat} (hf : f i = i) : KRun.rn f (.slice p n c) = .slice p n c := by
  rcases h.pos with rfl | ⟨o, rfl⟩
  · rfl
  · show Value.slice (some ⟨f i, o, none⟩) n c = _
    rw [hf]
theorem Nu.lt {i : Nat} {x : List Value × TypeId} {p : Option Addr} {n c : Nat} {A : List Int} (h : Nu i x p n c A) {k : Nat} (hk : i < k) : KRun.lt k (.slice p n c) = true := by
  rcases h.pos with rfl | ⟨o, rfl⟩
  · rfl
  · exact blt_iff.2 hk
/-- a caller's row in the smallest memory -/
theorem nu_of {h : Hp} {p : Option Addr} {n c : Nat} (i : Nat) (hr : rowP h p n c = true) : ∃ x p' b, Nu i x p' n c (rowOf h p n) ∧ (∀ s : Nat → Nat, s i = b → rn s (.slice p' n c) = .slice p n c) ∧ (tomb x.2 = false → ∃ y r, h.blk? b = some y ∧ tomb y.2 = false ∧ rt y.2 = rt x.2 ∧ y.1 = x.1 ++ r) := by
  rcases rowP_cases hr with ⟨rfl, rfl, rfl, e0⟩ | ⟨b, o, x, rfl, hx, q1, q2, e0⟩
  · refine ⟨([], 2 * dead), none, 0, ⟨fun h' _ => ⟨rfl, by rw [e0]; rfl⟩, .inl rfl, (fun v hv => by cases hv), (fun v hv => by cases hv), (by kernel_rfl), (by kernel_rfl)⟩, fun s _ => rfl, fun ht => ?_⟩
    rw [show tomb (2 * dead) = true from by kernel_rfl] at ht
    cases ht
  · obtain ⟨h1, h2, h3, h4, h5, h6, h7⟩ := rowC_of q1
    refine ⟨(x.1, tR), some ⟨i, o, none⟩, b, ⟨fun h' hb => ⟨?_, ?_⟩, .inr ⟨o, rfl⟩, q2, h7, tR_ro, tR_ab⟩, fun s hs => ?_, fun _ => ⟨x, [], hx, h5, by rw [h6]; exact tR_rt.symm, by simp⟩⟩
    · simp only [rowP, hb, Bool.and_eq_true]
      refine ⟨?_, List.all_eq_true.2 q2⟩
      unfold rowC at q1 ⊢
      simp only [Bool.and_eq_true, Bool.not_eq_true'] at q1 ⊢
      obtain ⟨⟨⟨⟨⟨⟨_, _⟩, p3⟩, p4⟩, p5⟩, p6⟩, p7⟩ := q1
      exact ⟨⟨⟨⟨⟨⟨tR_tomb, by kernel_rfl⟩, p3⟩, p4⟩, p5⟩, p6⟩, p7⟩
    · rw [e0]
      simp [rowOf, hb]
    · show Value.slice (some ⟨s i, o, none⟩) n c = _
      rw [hs]
/-- digits to the base 65536 -/
def dgB (L : List Int) : Bool := L.all fun x => decide (0 ≤ x ∧ x < 65536)
theorem dgB_of {L : List Int} (h : dgB L = true) : ∀ x ∈ L, Dg 65536 x := fun x hx => of_decide_eq_true (List.all_eq_true.1 h x hx)
theorem dgB_mk {L : List Int} (h : ∀ x ∈ L, Dg 65536 x) : dgB L = true := List.all_eq_true.2 fun x hx => decide_eq_true (h x hx)
theorem rowOf_len {h : Hp} {p : Option Addr} {n c : Nat} (hr : rowP h p n c = true) : (rowOf h p n).length = n := by
  rcases rowP_cases hr with ⟨rfl, rfl, rfl, e0⟩ | ⟨b, o, x, rfl, hx, q1, q2, e0⟩
  · rw [e0]; rfl
  · rw [e0]; exact (rowC_of q1).2.1
theorem at_dg {L : List Int} (h : ∀ x ∈ L, Dg 65536 x) (i : Nat) : Dg 65536 (L.getD i 0) := by
  by_cases hi : i < L.length
  · rw [getD_get hi]; exact h _ (List.getElem_mem hi)
  · rw [show L.getD i 0 = 0 from by simp [List.getD, List.getElem?_eq_none (show L.length ≤ i by omega)]]
    exact ⟨by omega, by omega⟩
theorem atN_nat (L : List Int) (i : Nat) : atN L (i : Int) = L.getD i 0 := by unfold atN; rw [if_pos (by omega), Int.toNat_natCast]
/-! ### Add -/
def aPreV (F : Func) : List Code := [cFst (cBody F), cFst (cSnd (cBody F)), cFst (cSnd (cSnd (cBody F)))]
def aR3 (F : Func) : Code := cFst (cFst (cSnd (cSnd (cSnd (cBody F)))))
def aLoop (F : Func) : Code := cIn (cIn (cSnd (cFst (cSnd (cSnd (cSnd (cBody F)))))))
def aEnd (F : Func) : Code := cSnd (cSnd (cSnd (cSnd (cBody F))))
theorem uadd_body : Try.f78.body = some (seqs (aPreV Try.f78) (.seq (.seq (aR3 Try.f78) (.block 0 (.loop (aLoop Try.f78)))) (aEnd Try.f78))) := by kernel_rfl
theorem uadd_pre (a b : Value) (h : Hp) : GoesT (evL (tabH Try.prog extY conN hcV) 100 (aPreV Try.f78) ([a, b] ++ List.replicate 40 undef, h, []) ⟨[], [], []⟩) 7 35 none [a, b, undef, undef, nilS, nilS, .int .u32 0] h [] := ⟨by kernel_rfl, by kernel_rfl, by kernel_rfl⟩
theorem uadd_r3 (a b : Value) (h : Hp) (g : Nat → Value) : GoesT (evC (tabH Try.prog extY conN hcV) 100 false (aR3 Try.f78) ([a, b, undef, undef, nilS, nilS, .int .u32 0] ++ tl 35 g, h, []) ⟨[], [], []⟩) 8 34 none [a, b, undef, undef, nilS, nilS, .int .u32 0, .int .i64 0] h [] := ⟨by kernel_rfl, by kernel_rfl, by kernel_rfl⟩
def sm (A B : List Int) (k i : Int) : Int := IntKind.u32.wrap (IntKind.u32.wrap (k + atN A i) + atN B i)
def hu3 (lo : List Value) (y x : List Value × TypeId) : Hp := ⟨3, [(lo, tU), y, x]⟩
def hp2 (y x : List Value × TypeId) : Hp := ⟨2, [y, x]⟩
/-- how the condition of Add's loop comes to be true: the first row, the second, the carry -/
def aScr (w : Nat) : List Dec := match w with | 0 => [cmp true] | 1 => [cmp false, cmp true] | _ => [cmp false, cmp false, cmp true]
def aLog (w : Nat) (n n' : Nat) (k i : Int) : Log := match w with | 0 => [(decide (i < n), true)] | 1 => [(decide (i < n'), true), (decide (i < n), false)] | _ => [(decide (k > 0), true), (decide (i < n'), false), (decide (i < n), false)]
def rP (h : Hp) (p : Option Addr) (n c : Nat) : Bool × Bool := (rowP h p n c, true)
theorem uadd_nil0 (p q : Option Addr) (n c n' c' : Nat) (k i : Int) (x y : List Value × TypeId) (g : Nat → Value) : GoesT (evC (tabH Try.prog extY conN hcV) 100 false (aLoop Try.f78) ([.slice p n c, .slice q n' c', undef, undef, nilS, nilS, .int .u32 k, .int .i64 i] ++ tl 34 g, hp2 y x, aScr 0 ++ [cmp true]) ⟨[], [], []⟩) 8 34 none [.slice p n c, .slice q n' c', undef, undef, nilS, sl 3 0 1 grown, .int .u32 (IntKind.u32.wrap ((sm (rowOf (hp2 y x) p n) (rowOf (hp2 y x) q n') k i).tdiv 65536)), .int .i64 (IntKind.i64.wrap (i + 1))] ⟨4, [([.int .u32 ((sm (rowOf (hp2 y x) p n) (rowOf (hp2 y x) q n') k i).tmod 65536)], tU), ([.int .u32 ((sm (rowOf (hp2 y x) p n) (rowOf (hp2 y x) q n') k i).tmod 65536)], tU), y, x]⟩ ((decide ((65536 : Int) = 0), false) :: rP (hp2 y x) q n' c' :: rP (hp2 y x) p n c :: aLog 0 n n' k i) := ⟨by kernel_rfl, by kernel_rfl, by kernel_rfl⟩
theorem uadd_nil1 (p q : Option Addr) (n c n' c' : Nat) (k i : Int) (x y : List Value × TypeId) (g : Nat → Value) : GoesT (evC (tabH Try.prog extY conN hcV) 100 false (aLoop Try.f78) ([.slice p n c, .slice q n' c', undef, undef, nilS, nilS, .int .u32 k, .int .i64 i] ++ tl 34 g, hp2 y x, aScr 1 ++ [cmp true]) ⟨[], [], []⟩) 8 34 none [.slice p n c, .slice q n' c', undef, undef, nilS, sl 3 0 1 grown, .int .u32 (IntKind.u32.wrap ((sm (rowOf (hp2 y x) p n) (rowOf (hp2 y x) q n') k i).tdiv 65536)), .int .i64 (IntKind.i64.wrap (i + 1))] ⟨4, [([.int .u32 ((sm (rowOf (hp2 y x) p n) (rowOf (hp2 y x) q n') k i).tmod 65536)], tU), ([.int .u32 ((sm (rowOf (hp2 y x) p n) (rowOf (hp2 y x) q n') k i).tmod 65536)], tU), y, x]⟩ ((decide ((65536 : Int) = 0), false) :: rP (hp2 y x) q n' c' :: rP (hp2 y x) p n c :: aLog 1 n n' k i) := ⟨by kernel_rfl, by kernel_rfl, by kernel_rfl⟩
theorem uadd_some0 (p q : Option Addr) (n c n' c' z : Nat) (k i : Int) (x y : List Value × TypeId) (lo : List Value) (g : Nat → Value) : GoesT (evC (tabH Try.prog extY conN hcV) 100 false (aLoop Try.f78) ([.slice p n c, .slice q n' c', undef, undef, nilS, sl 2 0 z grown, .int .u32 k, .int .i64 i] ++ tl 34 g, hu3 lo y x, aScr 0 ++ [cmp true, at_]) ⟨[], [], []⟩) 8 34 none [.slice p n c, .slice q n' c', undef, undef, nilS, sl 4 0 (z + 1) grown, .int .u32 (IntKind.u32.wrap ((sm (rowOf (hu3 lo y x) p n) (rowOf (hu3 lo y x) q n') k i).tdiv 65536)), .int .i64 (IntKind.i64.wrap (i + 1))] ⟨5, [(lo ++ [.int .u32 ((sm (rowOf (hu3 lo y x) p n) (rowOf (hu3 lo y x) q n') k i).tmod 65536)], tU), ([.int .u32 ((sm (rowOf (hu3 lo y x) p n) (rowOf (hu3 lo y x) q n') k i).tmod 65536)], tU), ([], 2 * dead), y, x]⟩ ((appChk tU (lo, tU) ([.int .u32 ((sm (rowOf (hu3 lo y x) p n) (rowOf (hu3 lo y x) q n') k i).tmod 65536)], tU) z 0 1, true) :: (decide ((65536 : Int) = 0), false) :: rP (hu3 lo y x) q n' c' :: rP (hu3 lo y x) p n c :: aLog 0 n n' k i) := ⟨by kernel_rfl, by kernel_rfl, by kernel_rfl⟩
theorem uadd_some1 (p q : Option Addr) (n c n' c' z : Nat) (k i : Int) (x y : List Value × TypeId) (lo : List Value) (g : Nat → Value) : GoesT (evC (tabH Try.prog extY conN hcV) 100 false (aLoop Try.f78) ([.slice p n c, .slice q n' c', undef, undef, nilS, sl 2 0 z grown, .int .u32 k, .int .i64 i] ++ tl 34 g, hu3 lo y x, aScr 1 ++ [cmp true, at_]) ⟨[], [], []⟩) 8 34 none [.slice p n c, .slice q n' c', undef, undef, nilS, sl 4 0 (z + 1) grown, .int .u32 (IntKind.u32.wrap ((sm (rowOf (hu3 lo y x) p n) (rowOf (hu3 lo y x) q n') k i).tdiv 65536)), .int .i64 (IntKind.i64.wrap (i + 1))] ⟨5, [(lo ++ [.int .u32 ((sm (rowOf (hu3 lo y x) p n) (rowOf (hu3 lo y x) q n') k i).tmod 65536)], tU), ([.int .u32 ((sm (rowOf (hu3 lo y x) p n) (rowOf (hu3 lo y x) q n') k i).tmod 65536)], tU), ([], 2 * dead), y, x]⟩ ((appChk tU (lo, tU) ([.int .u32 ((sm (rowOf (hu3 lo y x) p n) (rowOf (hu3 lo y x) q n') k i).tmod 65536)], tU) z 0 1, true) :: (decide ((65536 : Int) = 0), false) :: rP (hu3 lo y x) q n' c' :: rP (hu3 lo y x) p n c :: aLog 1 n n' k i) := ⟨by kernel_rfl, by kernel_rfl, by kernel_rfl⟩
theorem uadd_some2 (p q : Option Addr) (n c n' c' z : Nat) (k i : Int) (x y : List Value × TypeId) (lo : List Value) (g : Nat → Value) : GoesT (evC (tabH Try.prog extY conN hcV) 100 false (aLoop Try.f78) ([.slice p n c, .slice q n' c', undef, undef, nilS, sl 2 0 z grown, .int .u32 k, .int .i64 i] ++ tl 34 g, hu3 lo y x, aScr 2 ++ [cmp true, at_]) ⟨[], [], []⟩) 8 34 none [.slice p n c, .slice q n' c', undef, undef, nilS, sl 4 0 (z + 1) grown, .int .u32 (IntKind.u32.wrap ((sm (rowOf (hu3 lo y x) p n) (rowOf (hu3 lo y x) q n') k i).tdiv 65536)), .int .i64 (IntKind.i64.wrap (i + 1))] ⟨5, [(lo ++ [.int .u32 ((sm (rowOf (hu3 lo y x) p n) (rowOf (hu3 lo y x) q n') k i).tmod 65536)], tU), ([.int .u32 ((sm (rowOf (hu3 lo y x) p n) (rowOf (hu3 lo y x) q n') k i).tmod 65536)], tU), ([], 2 * dead), y, x]⟩ ((appChk tU (lo, tU) ([.int .u32 ((sm (rowOf (hu3 lo y x) p n) (rowOf (hu3 lo y x) q n') k i).tmod 65536)], tU) z 0 1, true) :: (decide ((65536 : Int) = 0), false) :: rP (hu3 lo y x) q n' c' :: rP (hu3 lo y x) p n c :: aLog 2 n n' k i) := ⟨by kernel_rfl, by kernel_rfl, by kernel_rfl⟩
theorem uadd_out (p q : Option Addr) (n c n' c' : Nat) (v : Value) (k i : Int) (h : Hp) (g : Nat → Value) : GoesT (evC (tabH Try.prog extY conN hcV) 100 false (aLoop Try.f78) ([.slice p n c, .slice q n' c', undef, undef, nilS, v, .int .u32 k, .int .i64 i] ++ tl 34 g, h, [cmp false, cmp false, cmp false]) ⟨[], [], []⟩) 8 34 (some (some 0)) [.slice p n c, .slice q n' c', undef, undef, nilS, v, .int .u32 k, .int .i64 i] h [(decide (k > 0), false), (decide (i < n'), false), (decide (i < n), false)] := ⟨by kernel_rfl, by kernel_rfl, by kernel_rfl⟩
theorem uadd_end (a b : Value) (z : Nat) (k i : Int) (x y : List Value × TypeId) (lo : List Value) (g : Nat → Value) : GoesT (evC (tabH Try.prog extY conN hcV) 100 false (aEnd Try.f78) ([a, b, undef, undef, nilS, sl 2 0 z grown, .int .u32 k, .int .i64 i] ++ tl 34 g, hu3 lo y x, []) ⟨[], [], []⟩) 5 37 (some none) [a, b, undef, undef, sl 2 0 (trimN (cutI lo 0 z)) (trimN (cutI lo 0 z))] (hu3 lo y x) [(rowC tU lo 0 z grown, true)] := ⟨by kernel_rfl, by kernel_rfl, by kernel_rfl⟩
theorem uadd_empty (p q : Option Addr) (n c n' c' : Nat) (h : Hp) : GoesT (evC (tabH Try.prog extY conN hcV) 100 false (cBody Try.f78) ([.slice p n c, .slice q n' c'] ++ List.replicate 40 undef, h, [cmp false, cmp false, cmp false]) ⟨[], [], []⟩) 5 37 (some none) [.slice p n c, .slice q n' c', undef, undef, nilS] h [(decide ((0 : Int) > 0), false), (decide ((0 : Int) < n'), false), (decide ((0 : Int) < n), false)] := ⟨by kernel_rfl, by kernel_rfl, by kernel_rfl⟩
end Go.Proofs.Ytekebccjflilnaa
