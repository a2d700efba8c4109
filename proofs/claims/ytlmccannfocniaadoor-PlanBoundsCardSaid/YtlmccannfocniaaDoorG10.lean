/-
  Hcs, AsNum, RunX2, RunTb, RunK, RunL, PlA, NumPl, PlB
-/
import Derived.Test.YtlmccannfocniaaDoorG09
import Init
namespace Go.Proofs.YtlmccannfocniaaDoor
open Go.KRun
set_option maxRecDepth 100000
theorem okOne {p : Bool × Bool} (h : p.1 = p.2) : okLog [p] := fun x hx => by rw [List.mem_singleton.1 hx]; exact h
theorem okTwo {p : Bool × Bool} {l : Log} (h : p.1 = p.2) (hl : okLog l) : okLog (p :: l) := fun x hx => by
  rcases List.mem_cons.1 hx with rfl | hx
  · exact h
  · exact hl x hx
theorem wrapI {n : Int} (h0 : -9223372036854775808 ≤ n) (h1 : n ≤ 9223372036854775807) : IntKind.i64.wrap n = n := by
  simp [IntKind.wrap, IntKind.bits, IntKind.signed]; omega
/-! ### what is known of calls with rows -/
abbrev Hc := Nat → List Value → Hp → List Dec → Option (Value × Hp × List Dec × Log)
abbrev AnsH := List Value → Hp → List Dec → Option (Value × Hp × List Dec × Log)
def AnsHOk (f : Nat) (g : AnsH) : Prop := ∀ vals h s v h' s' lg, g vals h s = some (v, h', s', lg) → okLog lg → ∀ m B w, Emb m B h w → (∀ v ∈ vals, lt h.n v = true) → Calls Tryd.prog f (vals.map (mv m)).toArray w fun e w' => ∃ m', e = .returned (mv m' v) ∧ Came m B h w v h' m' w'
structure HcOk (hc : Hc) : Prop where
  fn : ∀ f vals h s r, hc f vals h s = some r → ∃ F, Tryd.prog.funcs[f]? = some F ∧ F.body.isSome = true
  calls : ∀ f, AnsHOk f (hc f)
def hcN : Hc := fun _ _ _ _ => none
theorem hcN_ok : HcOk hcN := ⟨fun _ _ _ _ _ h => (by cases h), fun _ _ _ _ _ _ _ _ h => (by cases h)⟩
def altH (f : Nat) (g : AnsH) (hc : Hc) : Hc := fun f' vals h s => if Nat.beq f' f = true then g vals h s else hc f' vals h s
theorem altH_ok {f : Nat} {F : Func} (hF : Tryd.prog.funcs[f]? = some F) (hb : F.body.isSome = true) {g : AnsH} (hg : AnsHOk f g) {hc : Hc} (h : HcOk hc) : HcOk (altH f g hc) where
  fn := fun f' vals h' s r hr => by
    unfold altH at hr
    split at hr
    · rename_i e
      rw [Nat.eq_of_beq_eq_true e]
      exact ⟨F, hF, hb⟩
    · exact h.fn _ _ _ _ _ hr
  calls := fun f' vals h' s v h'' s' lg hr => by
    unfold altH at hr
    split at hr
    · rename_i e
      rw [Nat.eq_of_beq_eq_true e]
      exact hg _ _ _ _ _ _ _ hr
    · exact h.calls f' _ _ _ _ _ _ _ hr
def tabH (P : Program) (ext : Nat → List Value → Option (Value × Log)) (con : Con) (hc : Hc) : Tab := { P := P, fn := fun f => P.funcs[f]?, ext := ext, con := con, sym := true, hc := hc }
theorem tabH_ok {con : Con} (h : ConOk con) {hc : Hc} (hh : HcOk hc) : TabOk (tabH Tryd.prog extY con hc) where
  mixed := mixed
  ext := extY_ok
  con := fun f vals s v s' lg hc hl => ⟨by obtain ⟨F, h1, h2⟩ := h.fn f vals s v s' lg hc; exact ⟨F, (fns_ok f F h1).1, (fns_ok f F h1).2, h2⟩, h.calls f vals s v s' lg hc hl⟩
  fn := fns_ok
  hc := fun f vals h0 s v h' s' lg hr hl => ⟨by obtain ⟨F, h1, h2⟩ := hh.fn f vals h0 s _ hr; exact ⟨F, (fns_ok f F h1).1, (fns_ok f F h1).2, h2⟩, hh.calls f vals h0 s v h' s' lg hr hl⟩
end Go.Proofs.YtlmccannfocniaaDoor
namespace Go.Proofs.YtlmccannfocniaaDoor
open Go.KRun Go.RowKit
set_option maxRecDepth 100000
def known (w : World) : Prop := w.cell? ⟨1, 0, none⟩ = some errT
set_option maxHeartbeats 4000000 in
theorem num_calls (n : Int) (w : World) (hg : known w) : Calls Tryd.prog 10 #[.iface 49 (.int .i64 n)] w fun e w' => e = .returned (.int .i64 n) ∧ Tidy w w' := by
  have hlt : 1 < w.heap.size := by
    rcases Nat.lt_or_ge 1 w.heap.size with h | h
    · exact h
    · unfold known at hg
      simp [World.cell?, Array.getElem?_eq_none h] at hg
  have hg1 : (w.alloc (.cells #[.int .i64 0] 49)).cell? ⟨1, 0, none⟩ = some errT := by
    rw [World.cell?_alloc_lt _ _ ⟨1, 0, none⟩ hlt]; exact hg
  have ht1 : (w.alloc (.cells #[.int .i64 0] 49)).cell? ⟨w.heap.size, 0, none⟩ = some (.int .i64 0) := by simp
  have hf1 : (w.alloc (.cells #[.int .i64 0] 49)).frozen? ⟨w.heap.size, 0, none⟩ = false := by simp
  have hit := as_hit n ⟨w.heap.size, 0, none⟩ (.int .i64 0) _ hg1 ht1 hf1
  have hb : (w.alloc (.cells #[.int .i64 0] 49)).heap[w.heap.size]? = some (.cells #[.int .i64 0] 49 (0, 0)) := heap_alloc_at w _
  have hcell : (asW n ⟨w.heap.size, 0, none⟩ (w.alloc (.cells #[.int .i64 0] 49))).cell? ⟨w.heap.size, 0, none⟩ = some (.int .i64 n) ∧ Tidy w (asW n ⟨w.heap.size, 0, none⟩ (w.alloc (.cells #[.int .i64 0] 49))) := by
    unfold asW
    have t1 := tidy_alloc w #[.int .i64 0] 49
    generalize hw1 : w.alloc (.cells #[.int .i64 0] 49) = w1 at *
    have s1 : w.heap.size < w1.heap.size := by rw [← hw1, size_alloc']; omega
    have t2 := tidy_alloc w1 #[.pointer (some ⟨w.heap.size, 0, none⟩)] 55
    have q2 := heap_alloc_ne w1 (.cells #[.pointer (some ⟨w.heap.size, 0, none⟩)] 55) w.heap.size (by omega)
    have s2 := size_alloc' w1 (.cells #[.pointer (some ⟨w.heap.size, 0, none⟩)] 55)
    generalize w1.alloc (.cells #[.pointer (some ⟨w.heap.size, 0, none⟩)] 55) = w2 at *
    have t3 := tidy_alloc w2 #[.pointer (some ⟨10, 55, none⟩), .pointer (some ⟨w1.heap.size, 0, none⟩), .int .u64 150] 69
    have q3 := heap_alloc_ne w2 (.cells #[.pointer (some ⟨10, 55, none⟩), .pointer (some ⟨w1.heap.size, 0, none⟩), .int .u64 150] 69) w.heap.size (by omega)
    have s3 := size_alloc' w2 (.cells #[.pointer (some ⟨10, 55, none⟩), .pointer (some ⟨w1.heap.size, 0, none⟩), .int .u64 150] 69)
    generalize w2.alloc (.cells #[.pointer (some ⟨10, 55, none⟩), .pointer (some ⟨w1.heap.size, 0, none⟩), .int .u64 150] 69) = w3 at *
    have t4 := tidy_alloc w3 #[.pointer (some ⟨10, 55, none⟩), .pointer (some ⟨w1.heap.size, 0, none⟩), .int .u64 150] 69
    have q4 := heap_alloc_ne w3 (.cells #[.pointer (some ⟨10, 55, none⟩), .pointer (some ⟨w1.heap.size, 0, none⟩), .int .u64 150] 69) w.heap.size (by omega)
    have s4 := size_alloc' w3 (.cells #[.pointer (some ⟨10, 55, none⟩), .pointer (some ⟨w1.heap.size, 0, none⟩), .int .u64 150] 69)
    generalize w3.alloc (.cells #[.pointer (some ⟨10, 55, none⟩), .pointer (some ⟨w1.heap.size, 0, none⟩), .int .u64 150] 69) = w4 at *
    have t5 := tidy_alloc w4 #[.int .i64 n] 49
    have q5 := heap_alloc_ne w4 (.cells #[.int .i64 n] 49) w.heap.size (by omega)
    generalize w4.alloc (.cells #[.int .i64 n] 49) = w5 at *
    have hb5 : w5.heap[w.heap.size]? = some (.cells #[.int .i64 0] 49 (0, 0)) := by rw [q5, q4, q3, q2]; exact hb
    exact ⟨cell_of_one (one_setCell hb5), tidy_setCell (tidy_trans t1 (tidy_trans t2 (tidy_trans t3 (tidy_trans t4 t5)))) (Nat.le_refl _) hb5 _⟩
  obtain ⟨W', hc1, hc2, hit'⟩ : ∃ W' : World, W'.cell? ⟨w.heap.size, 0, none⟩ = some (.int .i64 n) ∧ Tidy w W' ∧ Calls Tryd.prog 24 #[.iface 49 (.int .i64 n), .iface 55 (.pointer (some ⟨w.heap.size, 0, none⟩))] (w.alloc (.cells #[.int .i64 0] 49)) fun ev w' => ev = .returned (.bool true) ∧ w' = W' := ⟨_, hcell.1, hcell.2, hit⟩
  clear hit hcell hb hf1 ht1 hg1 hlt hg
  go_enter Tryd.func10, Tryd.ntmps10
  go_wp2_with (go_at_call 24; refine hit'.mono ?_; rintro e w' ⟨rfl, rfl⟩)
  go_ret
  exact ⟨rfl, hc2⟩
def eqA : List Value → Bool
  | [.pointer (some ⟨g, e, none⟩)] => Nat.beq g 10 && Nat.beq e 26
  | _ => false
def eqE : Value → Bool
  | .iface r (.agg a) => Nat.beq r 90 && eqA a.toList
  | _ => false
def kOk : List Value → Bool
  | [.iface d v] => Nat.beq d dead && eqE v
  | _ => false
def kV : List Value := [.iface dead errT]
def kT : TypeId := 3 * dead + 1
theorem eqE_spec {v : Value} (h : eqE v = true) : v = errT := by
  unfold eqE at h
  split at h
  · rename_i r a
    simp only [Bool.and_eq_true] at h
    obtain ⟨h1, h2⟩ := h
    have h1 := Nat.eq_of_beq_eq_true h1
    unfold eqA at h2
    split at h2
    · rename_i g e ha
      simp only [Bool.and_eq_true] at h2
      have h3 := Nat.eq_of_beq_eq_true h2.1
      have h4 := Nat.eq_of_beq_eq_true h2.2
      have ea : a = #[.pointer (some ⟨g, e, none⟩)] := by
        apply Array.toList_inj.1
        rw [ha]
      rw [ea, h1, h3, h4]
      rfl
    · cases h2
  · cases h
theorem kOk_spec {cs : List Value} (h : kOk cs = true) : cs = kV := by
  unfold kOk at h
  split at h
  · rename_i d v
    simp only [Bool.and_eq_true] at h
    rw [Nat.eq_of_beq_eq_true h.1, eqE_spec h.2]
    rfl
  · cases h
def gNum : AnsH := fun vals h s =>
  match vals, h.blk? 0 with
  | [.iface t (.int .i64 n)], some (cs, ty) => some (.int .i64 n, h, s, [(Nat.beq t 49 && Nat.beq ty kT && kOk cs, true)])
  | _, _ => none
theorem known_of_blk {w : World} {r : List Value} {t : TypeId} {z : Nat × Nat} (h : w.heap[1]? = some (.cells (errT :: r).toArray t z)) : known w := by
  unfold known World.cell?
  simp [h]
theorem gNum_ok : AnsHOk 10 gNum := by
  intro vals h s v h' s' lg hg hl m B w E hv
  unfold gNum at hg
  split at hg
  · rename_i t n cs ty hb
    cases hg
    have h1 := hl _ (List.mem_singleton.2 rfl)
    simp only [Bool.and_eq_true] at h1
    obtain ⟨⟨e1, e2⟩, e3⟩ := h1
    have e1 := Nat.eq_of_beq_eq_true e1
    have e2 := Nat.eq_of_beq_eq_true e2
    have e3 := kOk_spec e3
    subst e1 e2 e3
    obtain ⟨_, r, t', z, k2, _⟩ := (E.abs 0 _ hb (by kernel_rfl)).1 (by kernel_rfl)
    have hk : known w := known_of_blk (r := r) (t := t') (z := z) (by
      have e4 : kV.map (mv1 m) = [errT] := by rfl
      have e5 : nbA kT = 1 := by kernel_rfl
      rw [e4] at k2
      simp only [e5] at k2
      exact k2)
    refine (num_calls n w hk).mono fun e w' he => ?_
    obtain ⟨E', hb'⟩ := clean_emb E he.2
    exact ⟨m, he.1, ⟨Agree.refl _ _, E', hb', Nat.le_refl _, rfl⟩⟩
  · cases hg
def hK : Hp := ⟨1, [(kV, kT)]⟩
theorem blkK {b : Nat} {x : List Value × TypeId} (h : hK.blk? b = some x) : x = (kV, kT) := by
  have hb0 : b = 0 := by have : b < 1 := Hp.blk_lt h; omega
  subst hb0
  exact (Option.some.inj h).symm
theorem startK {w : World} (hk : known w) : Emb (fun b => (b, 0)) w.heap.size hK w where
  len := rfl
  lies := fun b x hb hx => by rw [blkK hb, show tomb kT = true from by kernel_rfl] at hx; cases hx
  low := fun b x hb hx => by rw [blkK hb, show ro kT = true from by kernel_rfl] at hx; cases hx
  ros := fun b x hb hx => by rw [blkK hb, show tomb kT = true from by kernel_rfl] at hx; cases hx
  inj := fun b b' x x' hb _ hx => by rw [blkK hb, show ro kT = true from by kernel_rfl] at hx; cases hx
  wf := fun b x hb v hv => by
    rw [blkK hb] at hv
    rw [List.mem_singleton.1 hv]
    rfl
  base := Nat.le_refl _
  ice := fun k h1 h2 => by omega
  abs := fun b x hb _ => by
    rw [blkK hb]
    refine .of (by kernel_rfl) ?_
    have e5 : nbA kT = 1 := by kernel_rfl
    have e6 : lnA kT = 0 := by kernel_rfl
    have e4 : kV.map (mv1 fun b => (b, 0)) = [errT] := by rfl
    unfold absR
    simp only [e5, e4, e6]
    unfold known World.cell? at hk
    simp only at hk
    cases h0 : w.heap[1]? with
    | none => rw [h0] at hk; simp at hk
    | some o =>
      have hlt := (Array.getElem?_eq_some_iff.1 h0).1
      rw [h0] at hk
      cases o with
      | cells c t z =>
        refine ⟨hlt, c.toList.drop 1, t, z, ?_, .inl trivial⟩
        have hc : c.toList[0]? = some errT := by simpa using hk
        have : [errT] ++ c.toList.drop 1 = c.toList := by
          cases hl : c.toList with
          | nil => rw [hl] at hc; simp at hc
          | cons a l =>
            rw [hl] at hc
            simp at hc
            simp [hc]
        rw [this]
      | _ => simp at hk
end Go.Proofs.YtlmccannfocniaaDoor
namespace Go.KRun
theorem RunsW.cond {T : Tab} {b : Operand} {c1 c2 : Code} {x : Lf} {P : Ex → Lf → Prop} (v : Bool) (hb : okX b = true) (hv : ev x.1 b = .bool v) (h : RunsW T (match v with | true => c1 | false => c2) x P) : RunsW T (.cond b c1 c2) x P := by
  intro m B a w R Q hQ
  have hev : a.eval b = .bool v := by rw [eval_mv R.tmps hb, hv]; simp [mv, mv2, mv1]
  cases v
  · exact wp_cond_false hev (h m B a w R Q hQ)
  · exact wp_cond_true hev (h m B a w R Q hQ)
def cThn : Code → Code
  | .cond _ a _ => a
  | c => c
end Go.KRun
namespace Go.Proofs.YtlmccannfocniaaDoor
open Go.KRun Go.RowKit
end Go.Proofs.YtlmccannfocniaaDoor
namespace Go.KRun
open Go.RowKit
/-- a reckoned piece, ahead of the rest -/
theorem RunsW.goes {T : Tab} (hT : TabOk T) {N : Nat} {c1 c2 : Code} {t : List Value} {h h' : Hp} {s s0 : List Dec} {k n : Nat} {front : List Value} {cs : Log} {P : Ex → Lf → Prop} (hG : GoesT (evC T N false c1 (t, h, s) ⟨[], [], []⟩) k n none front h' cs) (hcs : okLog cs)
    (h2 : ∀ g, RunsW T c2 (front ++ tl n g, h', []) P) : RunsW T (.seq c1 c2) (t, h, s0) P :=
  RunsW.seq (goesT_runsW hT hG hcs) (fun y hy => by
    obtain ⟨t', h1, s'⟩ := y
    obtain ⟨_, ⟨g, e1⟩, e2⟩ := hy
    simp only at e1 e2
    subst e1 e2
    exact RunsW.script (h2 g)) (fun e y hy => by cases hy.1)
/-- a reckoned piece, with what follows from where it ends -/
theorem RunsW.ends {T : Tab} (hT : TabOk T) {N : Nat} {c : Code} {t : List Value} {h h' : Hp} {s s0 : List Dec} {k n : Nat} {e : Ex} {front : List Value} {cs : Log} {P : Ex → Lf → Prop} (hG : GoesT (evC T N false c (t, h, s) ⟨[], [], []⟩) k n e front h' cs) (hcs : okLog cs)
    (h2 : ∀ g s', P e (front ++ tl n g, h', s')) : RunsW T c (t, h, s0) P :=
  (goesT_runsW hT hG hcs).mono fun e' y hy => by
    obtain ⟨t', h1, s'⟩ := y
    obtain ⟨rfl, ⟨g, e1⟩, e2⟩ := hy
    simp only at e1 e2
    subst e1 e2
    exact h2 g s'
/-- behind a piece of code: some blocks are kept, by their numbers -/
theorem RunsW.cutP {T : Tab} {c : Code} {x0 : Lf} {ex : Ex} {front : List Value} {n : Nat} {h : Hp} (hr : RunsW T c x0 fun e z => e = ex ∧ (∃ g, z.1 = front ++ tl n g) ∧ z.2.1 = h) (o : List (Option Value)) (bs : List Nat) (cells : List (List Value × TypeId))
    (hl : cells.length = bs.length) (h0 : 0 < bs.length) (hf : matO (fun i => bs.getD i 0) o front) (hx : ∀ q ∈ bs.zip cells, (q.2.1.all (lt1 bs.length)) = true ∧ h.blk? q.1 = some (q.2.1.map (rn1 fun i => bs.getD i 0), q.2.2)) (hd : bs.Nodup) (hw : (o.all fun x => x.all (lt bs.length)) = true) :
    RunsW T c x0 fun e z => e = ex ∧ (∃ j g, z.1 = fillO j o ++ tl n g) ∧ z.2.1 = ⟨bs.length, cells.reverse⟩ := by
  intro m B a w R Q hQ
  refine hr m B a w R Q fun e z he m' a' w' R' hb' => ?_
  obtain ⟨rfl, ⟨g, hz1⟩, hz2⟩ := he
  obtain ⟨t, h1, s⟩ := z
  simp only at hz1 hz2
  subst hz1 hz2
  obtain ⟨j, j1, j2⟩ := fill_mat (m := m') h0 o front hf fun v hv => List.all_eq_true.1 hw _ hv
  obtain ⟨g', hg⟩ := tl_of (J := (tl n g).map (fun v => Value.iface dead (mv m' v))) (n := n) (by simp [tl_len])
  have R2 : Rel (fun i => m' (bs.getD i 0)) B (fillO j o ++ tl n g', ⟨bs.length, cells.reverse⟩, s) a' w' := by
    refine compactR R' (fun i => bs.getD i 0) (by simp [hl]) (fun i x hi => ?_) (fun i k x y hi hk hik => ?_) ?_ ?_
    · obtain ⟨_, q⟩ := blk_pick hl hi
      exact hx _ q
    · obtain ⟨q1, _⟩ := blk_pick hl hi
      obtain ⟨q2, _⟩ := blk_pick hl hk
      have e1 : bs.getD i 0 = bs[i] := by rw [List.getD_eq_getElem?_getD, List.getElem?_eq_getElem q1]; rfl
      have e2 : bs.getD k 0 = bs[k] := by rw [List.getD_eq_getElem?_getD, List.getElem?_eq_getElem q2]; rfl
      rw [e1, e2] at hik
      have hp := List.pairwise_iff_getElem.1 hd
      rcases Nat.lt_trichotomy i k with c | c | c
      · exact absurd hik (hp i k q1 q2 c)
      · exact c
      · exact absurd hik.symm (hp k i q2 q1 c)
    · rw [List.map_append, List.map_append, j1, ← hg, List.map_map]
      congr 1
    · intro v hv
      rcases List.mem_append.1 hv with hv | hv
      · exact j2 v hv
      · rw [← hg] at hv
        obtain ⟨u, _, rfl⟩ := List.mem_map.1 hv
        simp [lt, lt2, lt1, h0, dead]
  exact hQ e _ ⟨rfl, ⟨j, g', rfl⟩, rfl⟩ _ a' w' ⟨R2.tmps, R2.dfr, R2.emb, R2.wf⟩ hb'
theorem kept_x19 {h : Hp} {b : Nat} {x : List Value × TypeId} (hs : ∀ v ∈ x.1, still v = true) (hb : h.blk? b = some x) (f : Nat → Nat) {k : Nat} (hk : 0 < k) : (x.1.all (lt1 k)) = true ∧ h.blk? b = some (x.1.map (rn1 f), x.2) := by
  refine ⟨List.all_eq_true.2 fun v hv => still_lt hk (hs v hv), ?_⟩
  have e : ∀ v ∈ x.1, rn1 f v = v := fun v hv => by
    have h' := hs v hv
    cases v with
    | pointer a => cases a <;> simp_all [still, rn1]
    | slice a l c => cases a <;> simp_all [still, rn1]
    | map a => cases a <;> simp_all [still, rn1]
    | _ => rfl
  rw [show x.1.map (rn1 f) = x.1 from (List.map_congr_left e).trans (List.map_id' _)]
  exact hb
/-- a small memory of rows and tables -/
theorem Emb.smallB {m : Mp} {B : Nat} {h h0 : Hp} {w : World} {s : Nat → Nat} (E : Emb m B h w) (hl : h0.l.length = h0.n) (hr : ∀ b x, h0.blk? b = some x → ro x.2 = true ∧ ∀ v ∈ x.1, still v = true) (hf : h0.fits s h)
    (ha : ∀ b x, h0.blk? b = some x → ab x.2 = true → spK x.2 = false ∧ h.blk? (s b) = some x) : Emb (fun i => m (s i)) w.heap.size h0 w where
  len := hl
  lies := fun b x hb hx => by
    obtain ⟨y, r, h1, h2, h3, h4⟩ := hf b x hb hx
    obtain ⟨r', z, l0, l1, _⟩ := E.lies _ _ h1 h2
    have calm := (hr b x hb).2
    have e : x.1.map (mv1 m) = x.1.map (mv1 fun i => m (s i)) := still_map calm
    rw [h4, List.map_append] at l0 l1
    refine ⟨r.map (mv1 m) ++ r', z, ?_, ?_, fun hro => ?_⟩
    · simp at l0 ⊢; omega
    · rw [← e, l1, List.append_assoc]
    · rw [(hr b x hb).1] at hro; cases hro
  low := fun b x hb hro => by rw [(hr b x hb).1] at hro; cases hro
  ros := fun b x hb hx _ => by
    obtain ⟨y, r, h1, h2, _, _⟩ := hf b x hb hx
    exact E.here h1 h2
  inj := fun b b' x x' hb _ hro => by rw [(hr b x hb).1] at hro; cases hro
  wf := fun b x hb v hv => still_lt (Nat.lt_of_le_of_lt (Nat.zero_le _) (Hp.blk_lt hb)) ((hr b x hb).2 v hv)
  base := Nat.le_refl _
  ice := fun k h1 h2 => by omega
  abs := fun b x hb hx => by
    obtain ⟨h1, h2⟩ := ha b x hb hx
    obtain ⟨q1, q2⟩ := (E.abs _ _ h2 hx).1 h1
    have e : x.1.map (mv1 m) = x.1.map (mv1 fun i => m (s i)) := still_map (hr b x hb).2
    rw [e] at q2
    exact .of h1 ⟨Nat.lt_of_lt_of_le q1 E.base, q2⟩
/-- a call that begins with rows and a table: its answer holds no address -/
theorem row_calls0E {T : Tab} {f : Nat} {F : Func} {c : Code} (hF : T.P.funcs[f]? = some F) (hc : F.body = some c) {h0 : Hp} {vals : List Value} (hvals : ∀ v ∈ vals, lt h0.n v = true) {v : Value} (hv : lt 0 v = true)
    (hrun : RunsW T c (vals ++ List.replicate (F.ntmps - vals.length) undef, h0, []) fun e y => (e = none ∨ e = some none) ∧ resS T.P F y.1 y.2.1 = some v)
    {m : Mp} {B : Nat} {h : Hp} {w : World} (E : Emb m B h w) {s : Nat → Nat} (E0 : Emb (fun i => m (s i)) w.heap.size h0 w) :
    Calls T.P f ((vals.map (rn s)).map (mv m)).toArray w fun e w' => ∃ m', e = .returned (mv m' v) ∧ Came m B h w v h m' w' := by
  have ev : (vals.map (rn s)).map (mv m) = vals.map (mv fun i => m (s i)) := by
    rw [List.map_map]
    exact List.map_congr_left fun y _ => mv_rn m s y
  rw [ev]
  refine calls_of_wp hF hc ?_
  have R : Rel (fun i => m (s i)) w.heap.size (vals ++ List.replicate (F.ntmps - vals.length) undef, h0, []) { tmps := (vals.map (mv fun i => m (s i))).toArray ++ Array.replicate (F.ntmps - (vals.map (mv fun i => m (s i))).toArray.size) undef, defers := [] } w := by
    refine ⟨?_, rfl, E0, ?_⟩
    · simp [mv_undef]
    · intro y hy
      rcases List.mem_append.1 hy with hy | hy
      · exact hvals y hy
      · rw [List.eq_of_mem_replicate hy]; simp [undef, lt]
  refine hrun _ _ _ w R _ fun e y he m1 a' w' k2 k3 => ?_
  obtain ⟨hex, hres⟩ := he
  obtain ⟨r1, r2⟩ := resS_run k2.emb k2.wf hres
  rw [← k2.tmps, mv_still hv] at r1
  have td : Tidy w w' := ⟨k3, fun k h1 h2 => k2.emb.ice k h1 h2⟩
  obtain ⟨E', hb⟩ := clean_emb E td
  have post : a'.defers = [] ∧ ∃ v', (results F a'.tmps).run T.P w' = .ok v' w' ∧ ∃ m', Ending.returned v' = .returned (mv m' v) ∧ Came m B h w v h m' w' :=
    ⟨k2.dfr, _, r1, m, by rw [mv_still hv], ⟨Agree.refl _ _, E', hb, Nat.le_refl _, lt_mono (Nat.zero_le _) hv⟩⟩
  rcases hex with rfl | rfl <;> exact post
/-- the same, where one block of the call's own is kept -/
theorem row_calls1E {T : Tab} {f : Nat} {F : Func} {c : Code} (hF : T.P.funcs[f]? = some F) (hc : F.body = some c) {h0 : Hp} {vals : List Value} (hvals : ∀ v ∈ vals, lt h0.n v = true) {v : Value} {k : Nat}
    {cs : List Value} {ty : TypeId} (hcs : ∀ u ∈ cs, lt1 0 u = true) (hty : ro ty = false)
    (hrun : RunsW T c (vals ++ List.replicate (F.ntmps - vals.length) undef, h0, []) fun e y => (e = none ∨ e = some none) ∧ resS T.P F y.1 y.2.1 = some v ∧ ∃ r, y.2.1.blk? k = some (cs ++ r, ty))
    (hv0 : oc [k] v = true)
    {m : Mp} {B : Nat} {h : Hp} {w : World} (E : Emb m B h w) {s : Nat → Nat} (E0 : Emb (fun i => m (s i)) w.heap.size h0 w) :
    Calls T.P f ((vals.map (rn s)).map (mv m)).toArray w fun e w' => ∃ m', e = .returned (mv m' (rn (fun _ => h.n) v)) ∧ Came m B h w (rn (fun _ => h.n) v) (h.push cs ty) m' w' := by
  have ev : (vals.map (rn s)).map (mv m) = vals.map (mv fun i => m (s i)) := by
    rw [List.map_map]
    exact List.map_congr_left fun y _ => mv_rn m s y
  rw [ev]
  refine calls_of_wp hF hc ?_
  have R : Rel (fun i => m (s i)) w.heap.size (vals ++ List.replicate (F.ntmps - vals.length) undef, h0, []) { tmps := (vals.map (mv fun i => m (s i))).toArray ++ Array.replicate (F.ntmps - (vals.map (mv fun i => m (s i))).toArray.size) undef, defers := [] } w := by
    refine ⟨?_, rfl, E0, ?_⟩
    · simp [mv_undef]
    · intro y hy
      rcases List.mem_append.1 hy with hy | hy
      · exact hvals y hy
      · rw [List.eq_of_mem_replicate hy]; simp [undef, lt]
  refine hrun _ _ _ w R _ fun e y he m1 a' w' k2 k3 => ?_
  obtain ⟨hex, hres, r, hblk⟩ := he
  obtain ⟨r1, r2⟩ := resS_run k2.emb k2.wf hres
  rw [← k2.tmps] at r1
  have td : Tidy w w' := ⟨k3, fun k h1 h2 => k2.emb.ice k h1 h2⟩
  obtain ⟨E', hb⟩ := clean_emb E td
  have hlow : w.heap.size ≤ (m1 k).1 := k2.emb.low k _ hblk hty
  have hlie : lie w' (m1 k) (cs.map (mv1 m)) ty := by
    obtain ⟨r', z, l0, l1, l2⟩ := k2.emb.lies k _ hblk (tomb_ro hty)
    have e : cs.map (mv1 m1) = cs.map (mv1 m) := map_still hcs
    simp only [List.map_append] at l0 l1
    refine ⟨r.map (mv1 m1) ++ r', z, ?_, ?_, l2⟩
    · simp at l0 ⊢; omega
    · rw [← e, l1, List.append_assoc]
  have Ea := E'.adopt cs ty hty (fun u hu => lt1_mono (Nat.zero_le _) (hcs u hu)) hlie (Nat.le_trans E.base hlow) (fun b x hbx hx heq => by
    have := E.here hbx (tomb_ro hx)
    omega) (fun b x hbx hx hf => by
    have := E.at_ hbx hx hf
    omega)
  have e1 : mv m1 v = mv (upd m h.n (m1 k)) (rn (fun _ => h.n) v) := by
    rw [mv_rn]
    refine mv_on (fun b hb => ?_) hv0
    rw [List.mem_singleton.1 hb]
    simp [upd]
  rw [e1] at r1
  have post : a'.defers = [] ∧ ∃ v', (results F a'.tmps).run T.P w' = .ok v' w' ∧ ∃ m', Ending.returned v' = .returned (mv m' (rn (fun _ => h.n) v)) ∧ Came m B h w (rn (fun _ => h.n) v) (h.push cs ty) m' w' :=
    ⟨k2.dfr, _, r1, upd m h.n (m1 k), rfl, ⟨upd_agree _ _ _, Ea, hb, Nat.le_succ _, oc_ren (bs := [k]) (fun b hb => by show h.n < h.n + 1; omega) hv0⟩⟩
  rcases hex with rfl | rfl <;> exact post
def reckonAt (T : Tab) (h0 : Hp) (n : Nat) (f : Nat) (vals : List Value) (s : List Dec) : Option (Value × Hp × List Dec × Lg) := callBy T (evC T n false) f vals h0 s ⟨[], [], []⟩
theorem fitsAt_calls {T : Tab} (hT : TabOk T) {h0 : Hp} {n f : Nat} {vals : List Value} {s : List Dec} {v : Value} {cs : Log} (hF : Fits (reckonAt T h0 n f vals s) v cs) (hcs : okLog cs) (hvals : (vals.all (lt h0.n)) = true) (hv : lt 0 v = true) {m : Mp} {w : World} (E : Emb m w.heap.size h0 w) :
    Calls T.P f (vals.map (mv m)).toArray w fun e w' => e = .returned v ∧ Tidy w w' := by
  obtain ⟨h1, h2, h3, h4⟩ := hF
  cases hr : reckonAt T h0 n f vals s with
  | none => rw [hr] at h1; cases h1
  | some r =>
    rw [hr] at h1 h2 h3 h4
    simp only [Option.map_some, Option.some.injEq] at h1 h2 h3 h4
    obtain ⟨v', h', s', L⟩ := r
    simp only at h1 h2 h3 h4
    subst h1
    obtain ⟨_, _, h5⟩ := callBy_ok hT (evC_ok hT n).1 _ _ _ _ _ _ _ _ _ hr ⟨by rw [h2]; exact hcs, all_eq _ h3, all_eq _ h4⟩
    refine (h5 _ _ w E (List.all_eq_true.1 hvals)).mono fun en w' he => ?_
    obtain ⟨m', rfl, C⟩ := he
    exact ⟨by rw [mv_still hv], C.below, fun k h1 h2 => C.emb.ice k h1 h2⟩
/-- the same, where the arguments hold no address -/
theorem fitsAt_still {T : Tab} (hT : TabOk T) {h0 : Hp} {n f : Nat} {vals : List Value} {s : List Dec} {v : Value} {cs : Log} (hF : Fits (reckonAt T h0 n f vals s) v cs) (hcs : okLog cs) (hvals : (vals.all (lt 0)) = true) (hv : lt 0 v = true) {m : Mp} {w : World} (E : Emb m w.heap.size h0 w) :
    Calls T.P f vals.toArray w fun e w' => e = .returned v ∧ Tidy w w' := by
  have hst : ∀ y ∈ vals, lt 0 y = true := List.all_eq_true.1 hvals
  have e : vals.map (mv m) = vals := (List.map_congr_left fun y hy => mv_still (hst y hy)).trans (List.map_id' _)
  have := fitsAt_calls hT hF hcs (List.all_eq_true.2 fun y hy => lt_mono (Nat.zero_le _) (hst y hy)) hv E
  rw [e] at this
  exact this
/-- the same table, where new blocks are put in order by themselves -/
def tabA (T : Tab) : Tab := { T with auto := true }
theorem tabA_ok {T : Tab} (h : TabOk T) : TabOk (tabA T) := ⟨h.mixed, h.ext, h.con, h.fn, h.hc⟩
/-- What is to be reckoned of a call: its answer, what lies in block k behind it, the tests logged; and that all else that was logged is so. -/
def FitsB (r : Option (Value × Hp × List Dec × Lg)) (k : Nat) (v : Value) (cs : List Value) (ty : TypeId) (lg : Log) : Prop :=
  r.map (fun r => (r.1, r.2.1.blk? k, r.2.2.2.cs, r.2.2.2.es.map Prod.fst, r.2.2.2.bs.map Prod.fst)) = some (r.elim (v, none, lg, [], []) fun r => (v, some (cs, ty), lg, r.2.2.2.es.map Prod.snd, r.2.2.2.bs.map Prod.snd))
end Go.KRun
namespace Go.Proofs.YtlmccannfocniaaDoor
open Go.KRun Go.RowKit
set_option maxRecDepth 100000
theorem ok19 : okLog [] := fun _ h => by cases h
/-! ### the table -/
def rdI : List Int := [4, 12, 2, 8, 3, 33, 5, 65, 7, 105, 11, 209, 13, 273]
def rdV : List Value := [.int .i64 4, .int .i64 12, .int .i64 2, .int .i64 8, .int .i64 3, .int .i64 33, .int .i64 5, .int .i64 65, .int .i64 7, .int .i64 105, .int .i64 11, .int .i64 209, .int .i64 13, .int .i64 273]
def rdT : TypeId := 3 * dead + (1048576 * 14 + 0)
def knR (w : World) : Prop := ∃ t z, w.heap[0]? = some (.cells rdV.toArray t z)
def eqI19 : List Value → List Int → Bool
  | [], [] => true
  | .int .i64 a :: r, b :: q => decide (a = b) && eqI19 r q
  | _, _ => false
theorem eqI19_is : ∀ {l : List Value} {q : List Int}, eqI19 l q = true → l = q.map fun z => Value.int .i64 z
  | [], [], _ => rfl
  | .int .i64 a :: r, b :: q, h => by
    unfold eqI19 at h
    rw [Bool.and_eq_true, decide_eq_true_eq] at h
    rw [List.map_cons, h.1, eqI19_is h.2]
def isRd : Option (List Value × TypeId) → Bool
  | some (cs, ty) => Nat.beq ty rdT && eqI19 cs rdI
  | none => false
def hasRd (h : Hp) : Bool := isRd (h.blk? 0) || isRd (h.blk? 1)
theorem isRd_is {o : Option (List Value × TypeId)} (h : isRd o = true) : o = some (rdV, rdT) := by
  unfold isRd at h
  split at h
  · rw [Bool.and_eq_true] at h
    rw [Nat.eq_of_beq_eq_true h.1, eqI19_is h.2]
    rfl
  · cases h
theorem hasRd_is {h : Hp} (ht : hasRd h = true) : ∃ b, h.blk? b = some (rdV, rdT) := by
  unfold hasRd at ht
  rw [Bool.or_eq_true] at ht
  rcases ht with ht | ht
  · exact ⟨0, isRd_is ht⟩
  · exact ⟨1, isRd_is ht⟩
theorem rd_still (m : Mp) : rdV.map (mv1 m) = rdV := rfl
theorem knR_of {m : Mp} {B : Nat} {h : Hp} {w : World} (E : Emb m B h w) (ht : hasRd h = true) : knR w := by
  obtain ⟨b, hb⟩ := hasRd_is ht
  obtain ⟨_, r, t, z, k2, k3⟩ := (E.abs b _ hb (by kernel_rfl)).1 (by kernel_rfl)
  have e1 : nbA rdT = 0 := by kernel_rfl
  have e2 : lnA rdT = 14 := by kernel_rfl
  simp only [rd_still, e1] at k2
  simp only [rd_still, e2] at k3
  have e3 : rdV.length = 14 := rfl
  have hr : r = [] := List.length_eq_zero_iff.1 (by omega)
  rw [hr, List.append_nil] at k2
  exact ⟨t, z, k2⟩
/-- what is known of a call where the table is -/
def AnsRdOk (f : Nat) (g : Ans) : Prop := ∀ vals s v s' lg, g vals s = some (v, s', lg) → okLog lg → ∀ w, knR w → Calls Tryd.prog f vals.toArray w fun e w' => e = .returned v ∧ Tidy w w'
def gTb (g : Ans) : AnsH := fun vals h s =>
  match hasRd h && vals.all (lt 0) with
  | true =>
    match g vals s with
    | some (v, s', lg) => match lt 0 v with | true => some (v, h, s', lg) | false => none
    | none => none
  | false => none
theorem gTb_ok {f : Nat} {g : Ans} (hg : AnsRdOk f g) : AnsHOk f (gTb g) := by
  intro vals h s v h' s' lg hr hl m B w E hv
  unfold gTb at hr
  split at hr
  · rename_i hc
    rw [Bool.and_eq_true] at hc
    split at hr
    · rename_i v1 s1 lg1 hgv
      split at hr
      · rename_i hv0
        cases hr
        have hst : ∀ y ∈ vals, lt 0 y = true := List.all_eq_true.1 hc.2
        have e : vals.map (mv m) = vals := (List.map_congr_left fun y hy => mv_still (hst y hy)).trans (List.map_id' _)
        rw [e]
        refine (hg _ _ _ _ _ hgv hl w (knR_of E hc.1)).mono fun e w' he => ?_
        obtain ⟨E', hb'⟩ := clean_emb E he.2
        exact ⟨m, by rw [he.1, mv_still hv0], ⟨Agree.refl _ _, E', hb', Nat.le_refl _, lt_mono (Nat.zero_le _) hv0⟩⟩
      · cases hr
    · cases hr
  · cases hr
def hR0 : Hp := ⟨1, [(rdV, rdT)]⟩
theorem blk19a {b : Nat} {x : List Value × TypeId} (h : hR0.blk? b = some x) : x = (rdV, rdT) := by
  have hb0 : b = 0 := by have : b < 1 := Hp.blk_lt h; omega
  subst hb0
  exact (Option.some.inj h).symm
theorem absRd {w : World} (hk : knR w) (m : Mp) : nbA rdT < w.heap.size ∧ absR w (rdV.map (mv1 m)) rdT := by
  obtain ⟨t, z, h⟩ := hk
  have e1 : nbA rdT = 0 := by kernel_rfl
  have e2 : lnA rdT = 14 := by kernel_rfl
  refine ⟨by rw [e1]; exact (Array.getElem?_eq_some_iff.1 h).1, [], t, z, ?_, .inr ?_⟩
  · rw [e1, rd_still, List.append_nil, h]
  · rw [e2]; rfl
theorem startR {w : World} (hk : knR w) : Emb (fun b => (b, 0)) w.heap.size hR0 w where
  len := rfl
  lies := fun b x hb hx => by rw [blk19a hb, show tomb rdT = true from by kernel_rfl] at hx; cases hx
  low := fun b x hb hx => by rw [blk19a hb, show ro rdT = true from by kernel_rfl] at hx; cases hx
  ros := fun b x hb hx => by rw [blk19a hb, show tomb rdT = true from by kernel_rfl] at hx; cases hx
  inj := fun b b' x x' hb _ hx => by rw [blk19a hb, show ro rdT = true from by kernel_rfl] at hx; cases hx
  wf := fun b x hb v hv => by
    rw [blk19a hb] at hv
    have : ∀ v ∈ rdV, lt1 1 v = true := List.all_eq_true.1 (by kernel_rfl)
    exact this v hv
  base := Nat.le_refl _
  ice := fun k h1 h2 => by omega
  abs := fun b x hb _ => by
    rw [blk19a hb]
    exact .of (by kernel_rfl) (absRd hk _)
theorem fitsRd {T : Tab} (hT : TabOk T) {n f : Nat} {vals : List Value} {s : List Dec} {v : Value} {cs : Log} (hF : Fits (reckonAt T hR0 n f vals s) v cs) (hcs : okLog cs) (hvals : (vals.all (lt 0)) = true) (hv : lt 0 v = true) {w : World} (hk : knR w) :
    Calls T.P f vals.toArray w fun e w' => e = .returned v ∧ Tidy w w' := fitsAt_still hT hF hcs hvals hv (startR hk)
/-! ### a radix of a length -/
/-- a length is a radix -/
def isR (k : Int) : Bool := decide (k = 4 ∨ k = 2 ∨ k = 3 ∨ k = 5 ∨ k = 7 ∨ k = 11 ∨ k = 13)
/-- by how much it may be wrong -/
def wrR (k : Int) : Int := if k = 4 then 12 else if k = 2 then 8 else k * (k + 8)
def fdV (k : Int) (d : Bool) : Value := match d with
  | true => .tuple #[.agg #[.int .i64 k, .int .i64 (wrR k)], .bool true]
  | false => .tuple #[.agg #[.int .i64 0, .int .i64 0], .bool false]
theorem fd0 : Fits (reckonAt (tabOf Tryd.prog extY conN true) hR0 100 39 [.int .i64 4] []) (fdV 4 true) [] := ⟨by kernel_rfl, by kernel_rfl, by kernel_rfl, by kernel_rfl⟩
theorem fd1 : Fits (reckonAt (tabOf Tryd.prog extY conN true) hR0 100 39 [.int .i64 2] []) (fdV 2 true) [] := ⟨by kernel_rfl, by kernel_rfl, by kernel_rfl, by kernel_rfl⟩
theorem fd2 : Fits (reckonAt (tabOf Tryd.prog extY conN true) hR0 100 39 [.int .i64 3] []) (fdV 3 true) [] := ⟨by kernel_rfl, by kernel_rfl, by kernel_rfl, by kernel_rfl⟩
theorem fd3 : Fits (reckonAt (tabOf Tryd.prog extY conN true) hR0 100 39 [.int .i64 5] []) (fdV 5 true) [] := ⟨by kernel_rfl, by kernel_rfl, by kernel_rfl, by kernel_rfl⟩
theorem fd4 : Fits (reckonAt (tabOf Tryd.prog extY conN true) hR0 100 39 [.int .i64 7] []) (fdV 7 true) [] := ⟨by kernel_rfl, by kernel_rfl, by kernel_rfl, by kernel_rfl⟩
theorem fd5 : Fits (reckonAt (tabOf Tryd.prog extY conN true) hR0 100 39 [.int .i64 11] []) (fdV 11 true) [] := ⟨by kernel_rfl, by kernel_rfl, by kernel_rfl, by kernel_rfl⟩
theorem fd6 : Fits (reckonAt (tabOf Tryd.prog extY conN true) hR0 100 39 [.int .i64 13] []) (fdV 13 true) [] := ⟨by kernel_rfl, by kernel_rfl, by kernel_rfl, by kernel_rfl⟩
theorem fdN (k : Int) : Fits (reckonAt (tabOf Tryd.prog extY conN true) hR0 100 39 [.int .i64 k] [cmp true, cmp false, cmp true, cmp false, cmp true, cmp false, cmp true, cmp false, cmp true, cmp false, cmp true, cmp false, cmp true, cmp false, cmp false]) (fdV k false) [(false, false), (13 == k, false), (true, true), (11 == k, false), (true, true), (7 == k, false), (true, true), (5 == k, false), (true, true), (3 == k, false), (true, true), (2 == k, false), (true, true), (4 == k, false), (true, true)] := ⟨by kernel_rfl, by kernel_rfl, by kernel_rfl, by kernel_rfl⟩
theorem find_calls (k : Int) (d : Bool) (hd : isR k = d) (w : World) (hk : knR w) : Calls Tryd.prog 39 #[.int .i64 k] w fun e w' => e = .returned (fdV k d) ∧ Tidy w w' := by
  have hv : ([Value.int .i64 k].all (lt 0)) = true := rfl
  cases d with
  | true =>
    unfold isR at hd
    rcases of_decide_eq_true hd with rfl | rfl | rfl | rfl | rfl | rfl | rfl
    · exact fitsRd (tabY_ok conN_ok) fd0 ok19 hv (by rfl) hk
    · exact fitsRd (tabY_ok conN_ok) fd1 ok19 hv (by rfl) hk
    · exact fitsRd (tabY_ok conN_ok) fd2 ok19 hv (by rfl) hk
    · exact fitsRd (tabY_ok conN_ok) fd3 ok19 hv (by rfl) hk
    · exact fitsRd (tabY_ok conN_ok) fd4 ok19 hv (by rfl) hk
    · exact fitsRd (tabY_ok conN_ok) fd5 ok19 hv (by rfl) hk
    · exact fitsRd (tabY_ok conN_ok) fd6 ok19 hv (by rfl) hk
  | false =>
    have h := of_decide_eq_false hd
    exact fitsRd (tabY_ok conN_ok) (fdN k) (okTwo rfl (okTwo (beq_eq_false_iff_ne.2 (by omega)) (okTwo rfl (okTwo (beq_eq_false_iff_ne.2 (by omega)) (okTwo rfl (okTwo (beq_eq_false_iff_ne.2 (by omega)) (okTwo rfl (okTwo (beq_eq_false_iff_ne.2 (by omega)) (okTwo rfl (okTwo (beq_eq_false_iff_ne.2 (by omega)) (okTwo rfl (okTwo (beq_eq_false_iff_ne.2 (by omega)) (okTwo rfl (okTwo (beq_eq_false_iff_ne.2 (by omega)) (okOne rfl))))))))))))))) hv (by rfl) hk
def gFd : Ans := fun vals s => match vals, s with
  | [.int .i64 k], .inr (.inr (.inr (.inl d))) :: s' => some (fdV k d, s', [(isR k, d)])
  | _, _ => none
theorem gFd_ok : AnsRdOk 39 gFd := by
  intro vals s v s' lg h hl w hk
  unfold gFd at h
  split at h
  · rename_i k d s2
    cases h
    exact find_calls k d (hl _ (List.mem_singleton.2 rfl)) w hk
  · cases h
def hcFd : Hc := altH 39 (gTb gFd) hcN
theorem hcFd_ok : HcOk hcFd := altH_ok Tryd.func39 rfl (gTb_ok gFd_ok) hcN_ok
end Go.Proofs.YtlmccannfocniaaDoor
namespace Go.Pl
set_option maxRecDepth 100000
/-- one radix, as often as it goes -/
def cutR (r m : Nat) : List Nat := if _h : 2 ≤ r ∧ 0 < m ∧ m % r = 0 then r :: cutR r (m / r) else []
termination_by m
decreasing_by exact Nat.div_lt_self _h.2.1 _h.1
/-- what is left -/
def lefR (r m : Nat) : Nat := if _h : 2 ≤ r ∧ 0 < m ∧ m % r = 0 then lefR r (m / r) else m
termination_by m
decreasing_by exact Nat.div_lt_self _h.2.1 _h.1
theorem cut_go {r m : Nat} (hr : 2 ≤ r) (hm : 0 < m) (h : m % r = 0) : cutR r m = r :: cutR r (m / r) ∧ lefR r m = lefR r (m / r) := by
  constructor
  · rw [cutR, dif_pos ⟨hr, hm, h⟩]
  · rw [lefR, dif_pos ⟨hr, hm, h⟩]
theorem cut_stop {r m : Nat} (h : m % r ≠ 0) : cutR r m = [] ∧ lefR r m = m := by
  constructor
  · rw [cutR, dif_neg (fun k => h k.2.2)]
  · rw [lefR, dif_neg (fun k => h k.2.2)]
theorem div_pos' {r m : Nat} (hm : 0 < m) (h : m % r = 0) : 0 < m / r := by
  have := Nat.div_add_mod m r
  rcases Nat.eq_zero_or_pos (m / r) with e | e
  · rw [e, h] at this; simp at this; omega
  · exact e
/-- a rule for what is told of cutR and lefR, by going -/
theorem cut_ind {r : Nat} (hr : 2 ≤ r) {P : Nat → List Nat → Nat → Prop} (stop : ∀ m, 0 < m → m % r ≠ 0 → P m [] m) (go : ∀ m, 0 < m → m % r = 0 → P (m / r) (cutR r (m / r)) (lefR r (m / r)) → P m (r :: cutR r (m / r)) (lefR r (m / r))) (m : Nat) (hm : 0 < m) : P m (cutR r m) (lefR r m) := by
  induction m using Nat.strongRecOn with
  | ind m ih =>
    by_cases h : m % r = 0
    · obtain ⟨e1, e2⟩ := cut_go hr hm h
      rw [e1, e2]
      exact go m hm h (ih _ (Nat.div_lt_self hm hr) (div_pos' hm h))
    · obtain ⟨e1, e2⟩ := cut_stop h
      rw [e1, e2]
      exact stop m hm h
def prodN : List Nat → Nat | [] => 1 | a :: l => a * prodN l
theorem prodN_app (l k : List Nat) : prodN (l ++ k) = prodN l * prodN k := by
  induction l with
  | nil => simp [prodN]
  | cons a l ih => simp [prodN, ih, Nat.mul_assoc]
theorem cut_prod {r m : Nat} (hr : 2 ≤ r) (hm : 0 < m) : prodN (cutR r m) * lefR r m = m :=
  cut_ind (P := fun m l k => prodN l * k = m) hr (fun m _ _ => by simp [prodN]) (fun m _ h ih => by
    show r * prodN _ * _ = m
    rw [Nat.mul_assoc, ih]
    have := Nat.div_add_mod m r
    omega) m hm
theorem lef_pos {r m : Nat} (hr : 2 ≤ r) (hm : 0 < m) : 0 < lefR r m := by
  rcases Nat.eq_zero_or_pos (lefR r m) with e | e
  · have := cut_prod hr hm; rw [e] at this; omega
  · exact e
theorem cut_mem {r m : Nat} (hr : 2 ≤ r) (hm : 0 < m) : ∀ x ∈ cutR r m, x = r :=
  cut_ind (P := fun _ l _ => ∀ x ∈ l, x = r) hr (fun _ _ _ _ h => nomatch h) (fun _ _ _ ih x h => by
    rcases List.mem_cons.1 h with e | e
    · exact e
    · exact ih x e) m hm
/-- all the radices of a row of them -/
def parL : List Nat → Nat → List Nat | [], _ => [] | r :: rs, m => cutR r m ++ parL rs (lefR r m)
def parW : List Nat → Nat → Nat | [], m => m | r :: rs, m => parW rs (lefR r m)
theorem par_prod : ∀ (rs : List Nat), (∀ r ∈ rs, 2 ≤ r) → ∀ m, 0 < m → prodN (parL rs m) * parW rs m = m
  | [], _, m, _ => by simp [parL, parW, prodN]
  | r :: rs, h, m, hm => by
    have hr := h r (List.mem_cons_self ..)
    have ih := par_prod rs (fun x hx => h x (List.mem_cons_of_mem _ hx)) (lefR r m) (lef_pos hr hm)
    show prodN (cutR r m ++ _) * parW rs (lefR r m) = m
    rw [prodN_app, Nat.mul_assoc, ih, cut_prod hr hm]
theorem parW_pos : ∀ (rs : List Nat), (∀ r ∈ rs, 2 ≤ r) → ∀ m, 0 < m → 0 < parW rs m
  | [], _, _, hm => hm
  | r :: rs, h, _, hm => parW_pos rs (fun x hx => h x (List.mem_cons_of_mem _ hx)) _ (lef_pos (h r (List.mem_cons_self ..)) hm)
theorem parL_mem : ∀ (rs : List Nat), (∀ r ∈ rs, 2 ≤ r) → ∀ m, 0 < m → ∀ x ∈ parL rs m, x ∈ rs
  | [], _, _, _, _, hx => nomatch hx
  | r :: rs, h, m, hm, x, hx => by
    have hr := h r (List.mem_cons_self ..)
    rcases List.mem_append.1 hx with e | e
    · rw [cut_mem hr hm x e]; exact List.mem_cons_self ..
    · exact List.mem_cons_of_mem _ (parL_mem rs (fun x hx => h x (List.mem_cons_of_mem _ hx)) _ (lef_pos hr hm) x e)
def rad7 : List Nat := [4, 2, 3, 5, 7, 11, 13]
def plL (n : Nat) : List Nat := parL rad7 n
def plW (n : Nat) : Nat := parW rad7 n
theorem rad7_two : ∀ r ∈ rad7, 2 ≤ r := by decide
theorem pl_mem {n : Nat} (h : 0 < n) : ∀ x ∈ plL n, x ∈ rad7 := parL_mem rad7 rad7_two n h
theorem plW_pos {n : Nat} (h : 0 < n) : 0 < plW n := parW_pos rad7 rad7_two n h
/-- the least power of two that is no less than a number -/
def padN : Nat → Nat → Nat → Nat | 0, p, _ => p | f + 1, p, t => if p < t then padN f (2 * p) t else p
theorem padN_go {f p t : Nat} (h : p < t) : padN (f + 1) p t = padN f (2 * p) t := by rw [padN, if_pos h]
theorem padN_stop {f p t : Nat} (h : ¬ p < t) : padN f p t = p := by
  cases f with
  | zero => rfl
  | succ f => rw [padN, if_neg h]
end Go.Pl
namespace Go.Proofs.YtlmccannfocniaaDoor
open Go.KRun Go.RowKit
set_option maxRecDepth 100000
def tIn : TypeId := 3
def tIR : TypeId := 3 + dead
theorem tIR_ro : ro tIR = true := by kernel_rfl
theorem tIR_ab : ab tIR = false := by kernel_rfl
theorem tIR_rt : rt tIR = tIn := by kernel_rfl
theorem tIR_tomb : tomb tIR = false := by kernel_rfl
theorem dead2_ro : ro (2 * dead) = true := by kernel_rfl
theorem dead2_ab : ab (2 * dead) = false := by kernel_rfl
theorem dead2_tomb : tomb (2 * dead) = true := by kernel_rfl
def isI : Value → Bool
  | .int .i64 _ => true
  | _ => false
def intO : Value → Int
  | .int _ n => n
  | _ => 0
theorem isI_is {v : Value} (h : isI v = true) : v = .int .i64 (intO v) := by
  unfold isI at h
  split at h
  · rfl
  · cases h
def cutW (l : List Value) (o n : Nat) : List Value := (l.drop o).take n
def cutO (l : List Value) (o n : Nat) : List Int := (cutW l o n).map intO
/-- the numbers of a row or of nothing -/
def rowO (h : Hp) (p : Option Addr) (n : Nat) : List Int :=
  match p with
  | none => []
  | some a =>
    match h.blk? a.block with
    | some x => cutO x.1 a.off n
    | none => []
def rowCO (ty : TypeId) (l : List Value) (o n : Nat) : Bool := !(tomb ty) && Nat.beq (rt ty) tIn && Nat.ble (o + n) l.length && Nat.blt n 4611686018427387904 && (cutW l o n).all isI && l.all still
/-- it is one -/
def rowIP (h : Hp) (p : Option Addr) (n : Nat) : Bool :=
  match p with
  | none => Nat.beq n 0
  | some a =>
    match a.spot, h.blk? a.block with
    | none, some x => rowCO x.2 x.1 a.off n
    | _, _ => false
/-- a row in block k of a small memory -/
structure RowAt (k : Nat) (x : List Value × TypeId) (p : Option Addr) (n : Nat) (L : List Int) : Prop where
  len : L.length = n
  big : n < 4611686018427387904
  pos : (p = none ∧ n = 0) ∨ ∃ o, p = some ⟨k, o, none⟩ ∧ x.2 = tIR ∧ ∀ i, i < n → x.1[o + i * 1]? = some (.int .i64 (L.getD i 0))
  st : ∀ v ∈ x.1, still v = true
  ros : ro x.2 = true ∧ ab x.2 = false
  fit : ∀ o, p = some ⟨k, o, none⟩ → o + n ≤ x.1.length
theorem RowAt.lt {k : Nat} {x : List Value × TypeId} {p : Option Addr} {n : Nat} {L : List Int} (h : RowAt k x p n L) (c : Nat) {j : Nat} (hj : k < j) : KRun.lt j (.slice p n c) = true := by
  rcases h.pos with ⟨rfl, _⟩ | ⟨o, rfl, _⟩
  · rfl
  · exact blt_iff.2 hj
theorem rowCO_of {ty : TypeId} {l : List Value} {o n : Nat} (h : rowCO ty l o n = true) : o + n ≤ l.length ∧ (cutO l o n).length = n ∧ n < 4611686018427387904 ∧ (∀ i, i < n → l[o + i * 1]? = some (.int .i64 ((cutO l o n).getD i 0))) ∧ tomb ty = false ∧ rt ty = tIn ∧ ∀ v ∈ l, still v = true := by
  unfold rowCO at h
  simp only [Bool.and_eq_true, Bool.not_eq_true'] at h
  obtain ⟨⟨⟨⟨⟨h1, h2⟩, h3⟩, h4⟩, h5⟩, h6⟩ := h
  have h3 := Nat.le_of_ble_eq_true h3
  have hlen : (cutO l o n).length = n := by unfold cutO cutW; simp; omega
  refine ⟨h3, hlen, blt_iff.1 h4, fun i hi => ?_, h1, Nat.eq_of_beq_eq_true h2, List.all_eq_true.1 h6⟩
  have hc : (cutW l o n)[i]? = l[o + i]? := by
    unfold cutW
    rw [List.getElem?_take, if_pos hi, List.getElem?_drop]
  have hil : o + i < l.length := by omega
  have hm : l[o + i] ∈ cutW l o n := List.mem_of_getElem? (i := i) (by rw [hc, List.getElem?_eq_getElem hil])
  have e := isI_is (List.all_eq_true.1 h5 _ hm)
  have e2 : (cutO l o n)[i]? = some (intO l[o + i]) := by
    unfold cutO
    rw [List.getElem?_map, hc, List.getElem?_eq_getElem hil]
    rfl
  rw [Nat.mul_one, List.getElem?_eq_getElem hil, List.getD_eq_getElem?_getD, e2, Option.getD_some]
  exact congrArg some e
/-- a caller's row, in a small memory behind the table -/
theorem row_in {m : Mp} {B : Nat} {h : Hp} {w : World} (E : Emb m B h w) {p : Option Addr} {n : Nat} (hr : rowIP h p n = true) (ht : hasRd h = true) :
    ∃ (x : List Value × TypeId) (p' : Option Addr) (s : Nat → Nat), Emb (fun i => m (s i)) w.heap.size ⟨2, [x, (rdV, rdT)]⟩ w ∧ RowAt 1 x p' n (rowO h p n) ∧ ∀ c, rn s (.slice p' n c) = .slice p n c := by
  obtain ⟨bt, hbt⟩ := hasRd_is ht
  have rdst : ∀ v ∈ rdV, still v = true := List.all_eq_true.1 (by kernel_rfl)
  have blk : ∀ (x : List Value × TypeId) (i : Nat) (z : List Value × TypeId), (⟨2, [x, (rdV, rdT)]⟩ : Hp).blk? i = some z → (i = 0 ∧ z = (rdV, rdT)) ∨ (i = 1 ∧ z = x) := fun x i z hz => blkTwo hz
  unfold rowIP at hr
  split at hr
  · have e := Nat.eq_of_beq_eq_true hr
    subst e
    refine ⟨([], 2 * dead), none, fun _ => bt, ?_, ⟨rfl, by omega, .inl ⟨rfl, rfl⟩, (fun v hv => by cases hv), ⟨dead2_ro, dead2_ab⟩, fun _ h => by cases h⟩, fun _ => rfl⟩
    refine E.smallB rfl (fun b y hb => ?_) (fun b y hb hy => ?_) (fun b y hb hy => ?_) <;> rcases blk _ b y hb with ⟨rfl, rfl⟩ | ⟨rfl, rfl⟩
    · exact ⟨by kernel_rfl, rdst⟩
    · exact ⟨dead2_ro, fun v hv => by cases hv⟩
    · rw [show tomb rdT = true from by kernel_rfl] at hy; cases hy
    · rw [dead2_tomb] at hy; cases hy
    · exact ⟨by kernel_rfl, hbt⟩
    · rw [dead2_ab] at hy; cases hy
  · rename_i a
    split at hr
    · rename_i x hs hx
      obtain ⟨b, o, sp⟩ := a
      simp only at hs hx
      subst hs
      obtain ⟨h0, h1, h2, h3, h4, h5, h6⟩ := rowCO_of hr
      have er : rowO h (some ⟨b, o, none⟩) n = cutO x.1 o n := by simp [rowO, hx]
      refine ⟨(x.1, tIR), some ⟨1, o, none⟩, fun i => if i = 0 then bt else b, ?_, ⟨by rw [er]; exact h1, h2, .inr ⟨o, rfl, rfl, by rw [er]; exact h3⟩, h6, ⟨tIR_ro, tIR_ab⟩, fun o' ho => by cases ho; exact h0⟩, fun _ => rfl⟩
      refine E.smallB rfl (fun b y hb => ?_) (fun b y hb hy => ?_) (fun b y hb hy => ?_) <;> rcases blk _ b y hb with ⟨rfl, rfl⟩ | ⟨rfl, rfl⟩
      · exact ⟨by kernel_rfl, rdst⟩
      · exact ⟨tIR_ro, h6⟩
      · rw [show tomb rdT = true from by kernel_rfl] at hy; cases hy
      · exact ⟨x, [], hx, h4, by rw [h5]; exact tIR_rt.symm, by simp⟩
      · exact ⟨by kernel_rfl, hbt⟩
      · rw [tIR_ab] at hy; cases hy
    · cases hr
end Go.Proofs.YtlmccannfocniaaDoor
