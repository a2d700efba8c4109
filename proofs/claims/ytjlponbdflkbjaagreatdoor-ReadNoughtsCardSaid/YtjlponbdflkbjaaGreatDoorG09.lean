/-
  ConV2, ConV3, RunP, ConNU, RunI, TxH, UuZ, TxT, UuX, NumQ, ConNC
-/
import Derived.Test.YtjlponbdflkbjaaGreatDoorG08
import Derived.Test.YtjlponbdflkbjaaGreatDoorG07
import Derived.Test.YtjlponbdflkbjaaGreatDoorG06
import Derived.Laws.RangeString
import Derived.Laws.RangeAny
namespace Go.Proofs.YtjlponbdflkbjaaGreatDoor
open Go.KRun Go.Nt
set_option maxRecDepth 100000
theorem wU_still (L : List Int) : ∀ v ∈ wU L, still v = true := fun v hv => by
  unfold wU at hv
  obtain ⟨x, _, rfl⟩ := List.mem_map.1 hv
  rfl
theorem wU_len (L : List Int) : (wU L).length = L.length := by simp [wU]
theorem cut_wU (L : List Int) : cutI (wU L) 0 L.length = L := by
  unfold cutI cutV
  rw [List.drop_zero, ← wU_len, List.take_length]
  unfold wU
  rw [List.map_map]
  exact List.map_id' _
theorem wU_lt (L : List Int) : ∀ u ∈ wU L, lt1 0 u = true := fun v hv => by
  unfold wU at hv
  obtain ⟨x, _, rfl⟩ := List.mem_map.1 hv
  rfl
/-- the words of a row or of nothing -/
def rowOf (h : Hp) (p : Option Addr) (n : Nat) : List Int :=
  match p with
  | none => []
  | some a =>
    match h.blk? a.block with
    | some x => cutI x.1 a.off n
    | none => []
/-- it is one -/
def rowP (h : Hp) (p : Option Addr) (n c : Nat) : Bool :=
  match p with
  | none => Nat.beq n 0 && Nat.beq c 0
  | some a =>
    match a.spot, h.blk? a.block with
    | none, some x => rowC x.2 x.1 a.off n c && x.1.all still
    | _, _ => false
theorem rowP_cases {h : Hp} {p : Option Addr} {n c : Nat} (hr : rowP h p n c = true) : (p = none ∧ n = 0 ∧ c = 0 ∧ rowOf h p n = []) ∨ ∃ b o x, p = some ⟨b, o, none⟩ ∧ h.blk? b = some x ∧ rowC x.2 x.1 o n c = true ∧ (∀ v ∈ x.1, still v = true) ∧ rowOf h p n = cutI x.1 o n := by
  unfold rowP at hr
  split at hr
  · simp only [Bool.and_eq_true] at hr
    exact .inl ⟨rfl, Nat.eq_of_beq_eq_true hr.1, Nat.eq_of_beq_eq_true hr.2, rfl⟩
  · rename_i a
    split at hr
    · rename_i x hs hx
      simp only [Bool.and_eq_true] at hr
      obtain ⟨b, o, sp⟩ := a
      simp only at hs hx
      subst hs
      exact .inr ⟨b, o, x, rfl, hx, hr.1, List.all_eq_true.1 hr.2, by simp [rowOf, hx]⟩
    · cases hr
end Go.Proofs.YtjlponbdflkbjaaGreatDoor
namespace Go.KRun
open Go.RowKit
/-- a call that leaves the small memory as it is, and whose answer holds no address -/
theorem hcalls_keep {T : Tab} {f : Nat} {F : Func} {c : Code} (hF : T.P.funcs[f]? = some F) (hc : F.body = some c) {vals : List Value} {v : Value} {h : Hp} (hv : lt 0 v = true)
    (hr : Runs T c (vals ++ List.replicate (F.ntmps - vals.length) undef, h, []) fun e y => (e = none ∨ e = some none) ∧ resS T.P F y.1 y.2.1 = some v ∧ y.2.1 = h) (m : Mp) (B : Nat) (w : World) (E : Emb m B h w) (hvals : ∀ v ∈ vals, lt h.n v = true) :
    Calls T.P f (vals.map (mv m)).toArray w fun e w' => ∃ m', e = .returned (mv m' v) ∧ Came m B h w v h m' w' := by
  refine calls_of_wp hF hc ?_
  have R : Rel m B (vals ++ List.replicate (F.ntmps - vals.length) undef, h, []) { tmps := (vals.map (mv m)).toArray ++ Array.replicate (F.ntmps - (vals.map (mv m)).toArray.size) undef, defers := [] } w := by
    refine ⟨?_, rfl, E, ?_⟩
    · simp [mv_undef]
    · intro y hy
      rcases List.mem_append.1 hy with hy | hy
      · exact hvals y hy
      · rw [List.eq_of_mem_replicate hy]; simp [undef, lt]
  refine hr _ _ _ w R _ fun e y he a' w' hR => ?_
  obtain ⟨hex, hres, hh⟩ := he
  obtain ⟨m1, k1, k2, k3, _⟩ := hR
  obtain ⟨r1, r2⟩ := resS_run k2.emb k2.wf hres
  rw [← k2.tmps] at r1
  have Ek : Emb m1 B h w' := by
    have := k2.emb
    rw [hh] at this
    exact this
  have post : a'.defers = [] ∧ ∃ v', (results F a'.tmps).run T.P w' = .ok v' w' ∧ ∃ m', Ending.returned v' = .returned (mv m' v) ∧ Came m B h w v h m' w' :=
    ⟨k2.dfr, _, r1, m1, rfl, ⟨k1, Ek, k3, Nat.le_refl _, lt_mono (Nat.zero_le _) hv⟩⟩
  rcases hex with rfl | rfl <;> exact post
/-- a call that keeps two blocks of its own -/
theorem row_callsT {T : Tab} {f : Nat} {F : Func} {c : Code} (hF : T.P.funcs[f]? = some F) (hc : F.body = some c) {h0 : Hp} (hr : h0.rows) {vals : List Value} (hvals : ∀ v ∈ vals, lt h0.n v = true) {v : Nat → Nat → Value}
    {cs ds : List Value} {ty : TypeId} (hcs : ∀ u ∈ cs, lt1 0 u = true) (hds : ∀ u ∈ ds, lt1 0 u = true) (hty : ro ty = false)
    (hrun : RunsW T c (vals ++ List.replicate (F.ntmps - vals.length) undef, h0, []) fun e y => (e = none ∨ e = some none) ∧ ∃ k j, k ≠ j ∧ resS T.P F y.1 y.2.1 = some (v k j) ∧ (∃ r, y.2.1.blk? k = some (cs ++ r, ty)) ∧ ∃ r, y.2.1.blk? j = some (ds ++ r, ty))
    (hv0 : ∀ k j, oc [k, j] (v k j) = true)
    {m : Mp} {B : Nat} {h : Hp} {w : World} (E : Emb m B h w) {s : Nat → Nat} (hf : h0.fits s h) (hv1 : ∀ k j, ∀ g : Nat → Nat, rn g (v k j) = v (g k) (g j)) :
    Calls T.P f ((vals.map (rn s)).map (mv m)).toArray w fun e w' => ∃ m', e = .returned (mv m' (v h.n (h.n + 1))) ∧ Came m B h w (v h.n (h.n + 1)) ((h.push cs ty).push ds ty) m' w' := by
  have E0 := E.small hr hf
  have ev : (vals.map (rn s)).map (mv m) = vals.map (mv fun i => m (s i)) := by
    rw [List.map_map]
    exact List.map_congr_left fun y _ => mv_rn m s y
  rw [ev]
  refine calls_of_wp hF hc ?_
  have R : Rel (fun i => m (s i)) w.heap.size (vals ++ List.replicate (F.ntmps - vals.length) undef, h0, []) { tmps := (vals.map (mv fun i => m (s i))).toArray ++ Array.replicate (F.ntmps - (vals.map (mv fun i => m (s i))).toArray.size) undef, defers := [] } w := by
    refine ⟨?_, rfl, E0, ?_⟩
    · simp [mv_undef]
    · intro y hy
      rcases List.mem_append.1 hy with hy | hy
      · exact hvals y hy
      · rw [List.eq_of_mem_replicate hy]; simp [undef, lt]
  refine hrun _ _ _ w R _ fun e y he m1 a' w' k2 k3 => ?_
  obtain ⟨hex, k, j, hkj, hres, ⟨r, hblk⟩, r', hblj⟩ := he
  obtain ⟨r1, r2⟩ := resS_run k2.emb k2.wf hres
  rw [← k2.tmps] at r1
  have td : Tidy w w' := ⟨k3, fun k h1 h2 => k2.emb.ice k h1 h2⟩
  obtain ⟨E', hb⟩ := clean_emb E td
  have low : ∀ {k : Nat} {x : List Value × TypeId}, y.2.1.blk? k = some x → ro x.2 = false → w.heap.size ≤ (m1 k).1 := fun h1 h2 => k2.emb.low _ _ h1 h2
  have hlie : ∀ {k : Nat} {cs r : List Value}, (∀ u ∈ cs, lt1 0 u = true) → y.2.1.blk? k = some (cs ++ r, ty) → ∀ m' : Mp, lie w' (m1 k) (cs.map (mv1 m')) ty := fun {k cs r} hcs hblk m' => by
    obtain ⟨r', z, l0, l1, l2⟩ := k2.emb.lies k _ hblk (tomb_ro hty)
    have e : cs.map (mv1 m1) = cs.map (mv1 m') := map_still hcs
    simp only [List.map_append] at l0 l1
    refine ⟨r.map (mv1 m1) ++ r', z, ?_, ?_, l2⟩
    · simp at l0 ⊢; omega
    · rw [← e, l1, List.append_assoc]
  have lk := low hblk hty
  have lj := low hblj hty
  have Ea := E'.adopt cs ty hty (fun u hu => lt1_mono (Nat.zero_le _) (hcs u hu)) (hlie hcs hblk m) (Nat.le_trans E.base lk) (fun b x hbx hx heq => by
    have := E.here hbx (tomb_ro hx)
    omega)
  have Eb := Ea.adopt ds ty hty (fun u hu => lt1_mono (Nat.zero_le _) (hds u hu)) (hlie hds hblj (upd m h.n (m1 k))) (Nat.le_trans E.base lj) (fun b x hbx hx heq => by
    rw [Hp.blk_push E.len] at hbx
    by_cases h1 : b = h.n
    · subst h1
      simp only [upd, if_pos] at heq
      exact hkj (k2.emb.inj k j _ _ hblk hblj hty hty heq)
    · rw [if_neg h1] at hbx
      simp only [upd, if_neg h1] at heq
      have := E.here hbx (tomb_ro hx)
      omega)
  have hn : (h.push cs ty).n = h.n + 1 := rfl
  rw [hn] at Eb
  have e1 : mv m1 (v k j) = mv (upd (upd m h.n (m1 k)) (h.n + 1) (m1 j)) (v h.n (h.n + 1)) := by
    have e2 := hv1 k j (fun b => if b = k then h.n else h.n + 1)
    simp only [if_pos, if_neg (Ne.symm hkj)] at e2
    rw [← e2, mv_rn]
    refine mv_on (fun b hb => ?_) (hv0 k j)
    simp only [List.mem_cons, List.not_mem_nil, or_false] at hb
    rcases hb with rfl | rfl
    · simp [upd]
    · simp [upd, Ne.symm hkj]
  rw [e1] at r1
  have hlt : lt (h.n + 2) (v h.n (h.n + 1)) = true := by
    have e2 := hv1 k j (fun b => if b = k then h.n else h.n + 1)
    simp only [if_pos, if_neg (Ne.symm hkj)] at e2
    rw [← e2]
    exact oc_ren (bs := [k, j]) (fun b hb => by split <;> omega) (hv0 k j)
  have post : a'.defers = [] ∧ ∃ v', (results F a'.tmps).run T.P w' = .ok v' w' ∧ ∃ m', Ending.returned v' = .returned (mv m' (v h.n (h.n + 1))) ∧ Came m B h w (v h.n (h.n + 1)) ((h.push cs ty).push ds ty) m' w' :=
    ⟨k2.dfr, _, r1, _, rfl, ⟨(upd_agree m h.n (m1 k)).trans (upd_agree _ _ _) (by omega), Eb, hb, by show h.n ≤ h.n + 1 + 1; omega, hlt⟩⟩
  rcases hex with rfl | rfl <;> exact post
end Go.KRun
namespace Go.Proofs.YtjlponbdflkbjaaGreatDoor.Na
open Go.KRun Go.Nt
set_option maxRecDepth 100000
set_option linter.unusedVariables false
/-- a row or nothing, its capacity known -/
def rowX (h : Hp) (p : Option Addr) (n c : Nat) : Bool :=
  match p with
  | none => Nat.beq n 0 && Nat.beq c 0
  | some a =>
    match a.spot, h.blk? a.block with
    | none, some x => rowOk x.2 x.1 a.off n c
    | _, _ => false
theorem rowX_cases {h : Hp} {p : Option Addr} {n c : Nat} (hr : rowX h p n c = true) : (p = none ∧ n = 0 ∧ c = 0 ∧ rowOf h p n = []) ∨ ∃ b o x, p = some ⟨b, o, none⟩ ∧ h.blk? b = some x ∧ rowOk x.2 x.1 o n c = true ∧ rowOf h p n = cutI x.1 o n := by
  unfold rowX at hr
  split at hr
  · simp only [Bool.and_eq_true] at hr
    exact .inl ⟨rfl, Nat.eq_of_beq_eq_true hr.1, Nat.eq_of_beq_eq_true hr.2, rfl⟩
  · rename_i a
    split at hr
    · rename_i x hs hx
      obtain ⟨b, o, sp⟩ := a
      simp only at hs hx
      subst hs
      exact .inr ⟨b, o, x, rfl, hx, hr, by simp [rowOf, hx]⟩
    · cases hr
theorem badL_nil : badL [] = false := rfl
/-! ### Check -/
def gChkU : AnsH := fun vals h s =>
  match vals, s with
  | [.slice p n c], .inr (.inr (.inr (.inl d))) :: s' => some (errD d, h, s', [(rowX h p n c, true), (badL (rowOf h p n), d)])
  | _, _ => none
/-! ### checkBoth -/
def gBothU : AnsH := fun vals h s =>
  match vals, s with
  | [.slice p n c, .slice q n' c'], .inr (.inr (.inr (.inl d))) :: s' => some (errD d, h, s', [(rowX h p n c, true), (rowX h q n' c', true), (badL (rowOf h p n) || badL (rowOf h q n'), d)])
  | _, _ => none
theorem log3 {a b c : Bool × Bool} (h : okLog [a, b, c]) : a.1 = a.2 ∧ b.1 = b.2 ∧ c.1 = c.2 := ⟨h _ (by simp), h _ (by simp), h _ (by simp)⟩
theorem gBothU_ok : AnsHOk 116 gBothU := by
  intro vals h s v h' s' lg hg hl m B w E hv
  unfold gBothU at hg
  split at hg
  · rename_i p n c q n' c' d s2
    cases hg
    obtain ⟨l1, l2, l3⟩ := log3 hl
    simp only at l1 l2 l3
    rcases rowX_cases l1 with ⟨rfl, rfl, rfl, e0⟩ | ⟨b, o, x, rfl, hx, r1, e0⟩ <;> rcases rowX_cases l2 with ⟨rfl, rfl, rfl, f0⟩ | ⟨b', o', y, rfl, hy, t1, f0⟩ <;> simp only [e0, f0] at l3
    · rw [badL_nil, Bool.or_self] at l3
      subst l3
      exact gBoth_ok _ h [] _ _ _ _ rfl (fun x hx => by cases hx) m B w E hv
    · rw [badL_nil, Bool.false_or] at l3
      exact gBoth_ok _ h [cmp d] (errD d) h [] [(rowOk y.2 y.1 o' n' c', true), (badL (cutI y.1 o' n'), d)] (by simp only [gBoth, hy]) (okCons t1 (okL1 l3)) m B w E hv
    · rw [badL_nil, Bool.or_false] at l3
      exact gBoth_ok _ h [cmp d] (errD d) h [] [(rowOk x.2 x.1 o n c, true), (badL (cutI x.1 o n), d)] (by simp only [gBoth, hx]) (okCons r1 (okL1 l3)) m B w E hv
    · exact gBoth_ok _ h [cmp d] (errD d) h [] [(rowOk x.2 x.1 o n c, true), (rowOk y.2 y.1 o' n' c', true), (badL (cutI x.1 o n) || badL (cutI y.1 o' n'), d)] (by simp only [gBoth, hx, hy]) (okCons r1 (okCons t1 (okL1 l3))) m B w E hv
  · cases hg
/-! ### compare -/
def gCmpU : AnsH := fun vals h s =>
  match vals with
  | [.slice p n c, .slice q n' c'] => some (i6' (cmpL (rowOf h p n) (rowOf h q n')), h, s, [(rowX h p n c, true), (rowX h q n' c', true)])
  | _ => none
theorem cmp0_l {L : List Int} {n : Nat} (h : L.length = n) : cmpL [] L = cmp0 0 n := by
  unfold cmpL cmp0
  rw [h, List.length_nil]
  split
  · rfl
  · rfl
theorem cmp0_r {L : List Int} {n : Nat} (h : L.length = n) : cmpL L [] = cmp0 n 0 := by
  unfold cmpL cmp0
  rw [h, List.length_nil]
  split
  · rename_i h0; rw [h0]; rfl
  · rfl
theorem gCmpU_ok : AnsHOk 120 gCmpU := by
  intro vals h s v h' s' lg hg hl m B w E hv
  unfold gCmpU at hg
  split at hg
  · rename_i p n c q n' c'
    cases hg
    have l1 := hl _ (List.mem_cons_self)
    have l2 := hl _ (List.mem_cons_of_mem _ (List.mem_singleton.2 rfl))
    simp only at l1 l2
    rcases rowX_cases l1 with ⟨rfl, rfl, rfl, e0⟩ | ⟨b, o, x, rfl, hx, r1, e0⟩ <;> rcases rowX_cases l2 with ⟨rfl, rfl, rfl, f0⟩ | ⟨b', o', y, rfl, hy, t1, f0⟩ <;> simp only [e0, f0]
    · exact gCmp_ok _ h s _ _ _ _ rfl (fun x hx => by cases hx) m B w E hv
    · rw [cmp0_l (row_of t1).2.1]
      exact gCmp_ok _ h s _ _ _ _ rfl (fun x hx => by cases hx) m B w E hv
    · rw [cmp0_r (row_of r1).2.1]
      exact gCmp_ok _ h s _ _ _ _ rfl (fun x hx => by cases hx) m B w E hv
    · exact gCmp_ok _ h s _ h s [(rowOk x.2 x.1 o n c, true), (rowOk y.2 y.1 o' n' c', true)] (by simp only [gCmp, hx, hy]) (okCons r1 (okL1 t1)) m B w E hv
  · cases hg
/-! ### Add -/
/-! ### Sub -/
theorem cmp_nl {L : List Int} {n : Nat} (h : L.length = n) : cmpL [] L < 0 ↔ 0 < n := by
  rw [cmp0_l h]
  unfold cmp0
  split
  · omega
  · split <;> omega
end Go.Proofs.YtjlponbdflkbjaaGreatDoor.Na
namespace Go.KRun
open Go.RowKit
/-- all that lies below B stays, but for one block -/
structure BelowI (B r : Nat) (w w' : World) : Prop where
  os : w'.os = w.os
  tape : w'.tape = w.tape
  output : w'.output = w.output
  size : w.heap.size ≤ w'.heap.size
  block : ∀ k, k < B → k ≠ r → w'.heap[k]? = w.heap[k]?
theorem BelowI.of {B r : Nat} {w w' : World} (h : Below B w w') : BelowI B r w w' := ⟨h.os, h.tape, h.output, h.size, fun k hk _ => h.block k hk⟩
theorem BelowI.trans {B r : Nat} {w w' w'' : World} (h : BelowI B r w w') (g : BelowI B r w' w'') : BelowI B r w w'' :=
  ⟨g.os.trans h.os, g.tape.trans h.tape, g.output.trans h.output, Nat.le_trans h.size g.size, fun k hk hr => (g.block k hk hr).trans (h.block k hk hr)⟩
/-- what a piece of code does while an iterator over s stands at p in block r -/
def RunsI (T : Tab) (c : Code) (r : Nat) (s : ByteArray) (p : Nat) (x : Lf) (Post : Ex → Lf → Nat → Prop) : Prop :=
  ∀ m B a w, Rel m B x a w → r < B → w.heap[r]? = some (.stringIter s p) → ∀ Q : Exit → Act → World → Prop,
    (∀ e y p', Post e y p' → ∀ m' a' w', Rel m' B y a' w' → BelowI B r w w' → w'.heap[r]? = some (.stringIter s p') → Q (out e) a' w') → c.wp T.P Q a w
section
variable {T : Tab} {r : Nat} {s : ByteArray}
/-- a piece that does not know of the iterator -/
theorem RunsW.i {c : Code} {p : Nat} {x : Lf} {P : Ex → Lf → Prop} (h : RunsW T c x P) : RunsI T c r s p x fun e y p' => p' = p ∧ P e y := by
  intro m B a w R hr hi Q hQ
  refine h m B a w R Q fun e y he m' a' w' R' hb => hQ e y p ⟨rfl, he⟩ m' a' w' R' (BelowI.of hb) ?_
  rw [hb.block r hr]
  exact hi
theorem RunsI.mono {c : Code} {p : Nat} {x : Lf} {P P' : Ex → Lf → Nat → Prop} (h : RunsI T c r s p x P) (hp : ∀ e y q, P e y q → P' e y q) : RunsI T c r s p x P' :=
  fun m B a w R hr hi Q hQ => h m B a w R hr hi Q fun e y p' he => hQ e y p' (hp e y p' he)
theorem RunsI.seq {c1 c2 : Code} {p : Nat} {x : Lf} {P1 P : Ex → Lf → Nat → Prop} (h1 : RunsI T c1 r s p x P1) (h2 : ∀ y q, P1 none y q → RunsI T c2 r s q y P) (h3 : ∀ e y q, P1 (some e) y q → P (some e) y q) : RunsI T (.seq c1 c2) r s p x P := by
  intro m B a w R hr hi Q hQ
  refine wp_seq (h1 m B a w R hr hi _ fun e y q he m' a' w' R' hb hi' => ?_)
  match e, he with
  | none, he => exact h2 y q he m' B a' w' R' hr hi' Q fun e' y' q' he' m'' a'' w'' R'' hb' hi'' => hQ e' y' q' he' m'' a'' w'' R'' (hb.trans hb') hi''
  | some none, he => exact hQ _ _ q (h3 none y q he) m' a' w' R' hb hi'
  | some (some id), he => exact hQ _ _ q (h3 (some id) y q he) m' a' w' R' hb hi'
theorem RunsI.block {c : Code} {id p : Nat} {x : Lf} {P1 P : Ex → Lf → Nat → Prop} (h1 : RunsI T c r s p x P1) (h2 : ∀ y q, P1 none y q → P none y q) (h3 : ∀ y q, P1 (some none) y q → P (some none) y q)
    (h4 : ∀ y q, P1 (some (some id)) y q → P none y q) (h5 : ∀ id' y q, id' ≠ id → P1 (some (some id')) y q → P (some (some id')) y q) : RunsI T (.block id c) r s p x P := by
  intro m B a w R hr hi Q hQ
  refine wp_block (h1 m B a w R hr hi _ fun e y q he m' a' w' R' hb hi' => ?_)
  match e, he with
  | none, he => exact hQ _ _ q (h2 y q he) m' a' w' R' hb hi'
  | some none, he => exact hQ _ _ q (h3 y q he) m' a' w' R' hb hi'
  | some (some id'), he =>
    simp only [out, Exit.inBlock]
    by_cases hid : id' = id
    · subst hid
      rw [if_pos rfl]
      exact hQ _ _ q (h4 y q he) m' a' w' R' hb hi'
    · rw [if_neg hid]
      exact hQ _ _ q (h5 id' y q hid he) m' a' w' R' hb hi'
theorem RunsI.loop {c : Code} {p : Nat} {x : Lf} {P : Ex → Lf → Nat → Prop} (Inv : Nat → Lf → Nat → Prop) (round : ∀ n x q, Inv n x q → RunsI T c r s q x fun e y q' => match e with | none => ∃ n', n' < n ∧ Inv n' y q' | some e => P (some e) y q') {n : Nat} (h0 : Inv n x p) :
    RunsI T (.loop c) r s p x P := by
  have key : ∀ N n x p, n < N → Inv n x p → ∀ m B a w, Rel m B x a w → r < B → w.heap[r]? = some (.stringIter s p) → ∀ Q : Exit → Act → World → Prop, (∀ e y p', P e y p' → ∀ m' a' w', Rel m' B y a' w' → BelowI B r w w' → w'.heap[r]? = some (.stringIter s p') → Q (out e) a' w') → Code.rounds T.P c Q N a w := by
    intro N
    induction N with
    | zero => intro n x p hn; omega
    | succ N ih =>
      intro n x p hn hI m B a w R hr hi Q hQ
      rw [rounds_succ]
      refine round n x p hI m B a w R hr hi _ fun e y q he m' a' w' R' hb hi' => ?_
      match e, he with
      | none, he =>
        obtain ⟨n', hn', hI'⟩ := he
        exact ih n' y q (by omega) hI' m' B a' w' R' hr hi' Q fun e' y' q' he' m'' a'' w'' R'' hb' hi'' => hQ e' y' q' he' m'' a'' w'' R'' (hb.trans hb') hi''
      | some none, he => exact hQ _ _ q he m' a' w' R' hb hi'
      | some (some id), he => exact hQ _ _ q he m' a' w' R' hb hi'
  intro m B a w R hr hi Q hQ
  exact wp_loop_rounds (n + 1) (key (n + 1) n x p (by omega) h0 m B a w R hr hi Q hQ)
theorem RunsI.forLoop {c : Code} {id p : Nat} {x : Lf} {P : Lf → Nat → Prop} {R : Lf → Nat → Prop} (Inv : Nat → Lf → Nat → Prop)
    (round : ∀ n x q, Inv n x q → RunsI T c r s q x fun e y q' => match e with | none => ∃ n', n' < n ∧ Inv n' y q' | some none => R y q' | some (some id') => id' = id ∧ P y q') {n : Nat} (h0 : Inv n x p) :
    RunsI T (.block id (.loop c)) r s p x fun e y q => match e with | none => P y q | some none => R y q | some (some _) => False := by
  refine RunsI.block (P1 := fun e y q => match e with | none => False | some none => R y q | some (some id') => id' = id ∧ P y q) ?_ (fun y q he => he.elim) (fun y q he => he) (fun y q he => he.2) (fun id' y q hid he => absurd he.1 hid)
  refine RunsI.loop Inv (fun n x q hI => (round n x q hI).mono fun e y q' he => ?_) h0
  match e, he with
  | none, he => exact he
  | some none, he => exact he
  | some (some id'), he => exact he
end
/-- a memory of which nothing is known: there the temporaries may hold values of the world's own -/
def hT1 : Hp := ⟨1, [([], 2 * dead)]⟩
theorem hT1_blk {b : Nat} {x : List Value × TypeId} (h : hT1.blk? b = some x) : x = ([], 2 * dead) := by
  have hb : b < 1 := Hp.blk_lt h
  have h0 : b = 0 := by omega
  subst h0
  exact (Option.some.inj h).symm
theorem emb_T1 (m : Mp) {B : Nat} {w : World} (hB : B ≤ w.heap.size) (hi : ∀ k, B ≤ k → k < w.heap.size → iced w.heap[k]?) : Emb m B hT1 w := by
  have t1 : tomb (2 * dead) = true := by kernel_rfl
  have r1 : ro (2 * dead) = true := by kernel_rfl
  have a1 : ab (2 * dead) = false := by kernel_rfl
  refine ⟨rfl, fun b x hb ht => ?_, fun b x hb hr => ?_, fun b x hb ht => ?_, fun b b' x x' hb _ hr => ?_, fun b x hb v hv => ?_, hB, hi, fun b x hb ha => ?_⟩ <;> rw [hT1_blk hb] at *
  · rw [t1] at ht; cases ht
  · rw [r1] at hr; cases hr
  · rw [t1] at ht; cases ht
  · rw [r1] at hr; cases hr
  · cases hv
  · rw [a1] at ha; cases ha
theorem op_value {P : Program} {ops : Array Oper} {Q : Exit → Act → World → Prop} {i : Nat} {K : Act → World → Prop} {a : Act} {w w' : World} {o : Oper} {v : Value} (hi : ops[i]? = some o) (hg : o.guard = none) (hr : (execOp a.eval o).run P w = .ok (.value v) w') (hK : K (a.put o.dst v) w') : wpOp P ops Q i K a w := by
  unfold wpOp
  have hw : Region.wanted o (yielded ops a.tmps) = true := by unfold Region.wanted; rw [hg]
  simp only [hi, hw, if_true]
  left
  unfold Oper.wp
  rw [hr, Oper.upon_value]
  exact hK
theorem exec_move {P : Program} {a : Act} {o : Oper} {x : Operand} (ho : o.op = .move x) (w : World) : (execOp a.eval o).run P w = .ok (.value (a.eval x)) w := by
  unfold execOp
  rw [ho]
  simp
theorem exec_range {P : Program} {a : Act} {o : Oper} {x : Operand} {ty : TypeId} (ho : o.op = .range ty x) {s : ByteArray} (hx : a.eval x = .string s) (hty : P.underlying ty = some .string) (w : World) :
    (execOp a.eval o).run P w = .ok (.value (.pointer (some ⟨w.heap.size, 0, none⟩))) (w.iter s 0) := by
  unfold execOp
  rw [ho]
  simp [hx, run_range_string w ty s hty]
/-- a loop over a string: the iterator is made -/
theorem RunsW.overString {T : Tab} {c : Code} {id : Nat} {o1 o2 : Oper} (g1 : o1.guard = none) (g2 : o2.guard = none) {j d1 d2 : Nat} {ty : TypeId} (e1 : o1.op = .move (.tmp j)) (e2 : o2.op = .range ty (.tmp d1)) (k1 : o1.dst = some d1) (k2 : o2.dst = some d2)
    (hty : T.P.underlying ty = some .string) {t : List Value} {s : ByteArray} (hj : t[j]? = some (.string s)) (hd : d1 < t.length) {sc : List Dec} {P : Ex → Lf → Prop}
    (hI : ∀ r, RunsI T c r s 0 ((t.set d1 (.string s)).set d2 (.iface dead (.pointer (some ⟨r, 0, none⟩))), hT1, []) fun e y _ => y.2.1 = hT1 ∧ P e y) :
    RunsW T (.seq (.region id #[o1, o2] false) c) (t, ⟨0, []⟩, sc) P := by
  intro m B a w R Q hQ
  refine wp_seq (wp_region ?_)
  show wpOps T.P #[o1, o2] _ [0, 1] a w
  rw [wpOps_cons]
  have ev1 : a.eval (.tmp j) = .string s := by
    rw [eval_mv R.tmps (x := .tmp j) rfl]
    simp [ev, List.getD, hj, mv, mv2, mv1]
  refine op_value (o := o1) (by rfl) g1 (exec_move e1 w) ?_
  rw [ev1, k1, wpOps_cons]
  have R1 : Rel m B (t.set d1 (.string s), ⟨0, []⟩, []) (a.put (some d1) (.string s)) w := R.put (v := .string s) (Agree.refl _ _) R.emb (Nat.le_refl _) (by simp [lt, lt2, lt1]) (some d1) []
  have ev2 : (a.put (some d1) (.string s)).eval (.tmp d1) = .string s := by
    rw [eval_mv R1.tmps (x := .tmp d1) rfl]
    simp [ev, List.getD, hd, mv, mv2, mv1]
  refine op_value (o := o2) (by rfl) g2 (exec_range e2 ev2 hty w) ?_
  rw [k2]
  show wpOps T.P #[o1, o2] _ [] _ _
  have hsz : (w.iter s 0).heap.size = w.heap.size + 1 := size_alloc' w _
  have hold : ∀ k, k < w.heap.size → (w.iter s 0).heap[k]? = w.heap[k]? := fun k hk => heap_alloc_ne w _ k (by omega)
  have R2 : Rel m (w.heap.size + 1) ((t.set d1 (.string s)).set d2 (.iface dead (.pointer (some ⟨w.heap.size, 0, none⟩))), hT1, []) ((a.put (some d1) (.string s)).put (some d2) (.pointer (some ⟨w.heap.size, 0, none⟩))) (w.iter s 0) := by
    have E : Emb m (w.heap.size + 1) hT1 (w.iter s 0) := emb_T1 m (by omega) (fun k h1 h2 => by omega)
    have R1' : Rel m (w.heap.size + 1) (t.set d1 (.string s), hT1, []) (a.put (some d1) (.string s)) (w.iter s 0) := ⟨R1.tmps, R1.dfr, E, fun v hv => lt_mono (Nat.zero_le _) (R1.wf v hv)⟩
    have := R1'.put (v := .iface dead (.pointer (some ⟨w.heap.size, 0, none⟩))) (Agree.refl _ _) E (Nat.le_refl _) (by simp [lt, lt2, lt1, hT1]) (some d2) []
    have em : mv m (.iface dead (.pointer (some ⟨w.heap.size, 0, none⟩))) = .pointer (some ⟨w.heap.size, 0, none⟩) := by simp [mv, mv2, mv1]
    rw [em] at this
    exact this
  refine hI w.heap.size m (w.heap.size + 1) _ _ R2 (Nat.lt_succ_self _) (World.iter_heap w s 0) Q fun e y p' hp m' a' w' R' hb hi => ?_
  obtain ⟨hy, hP⟩ := hp
  have hB := R.emb.base
  have Eb : ∀ k, k < w.heap.size → w'.heap[k]? = w.heap[k]? := fun k hk => by rw [hb.block k (by omega) (by omega), hold k hk]
  have E' : Emb m' B hT1 w' := by
    refine emb_T1 m' ?_ fun k h1 h2 => ?_
    · have := hb.size; omega
    · rcases Nat.lt_trichotomy k w.heap.size with h | h | h
      · rw [Eb k h]; exact R.emb.ice k h1 h
      · subst h
        rw [hi]
        intro c e z hz
        cases hz
      · have := R'.emb.ice k (by omega) h2
        exact this
  obtain ⟨ty', hy', sy⟩ := y
  simp only at hy
  subst hy
  exact hQ e _ hP m' a' w' ⟨R'.tmps, R'.dfr, E', R'.wf⟩ ⟨hb.os, hb.tape, hb.output, by have := hb.size; omega, fun k hk => Eb k (by omega)⟩
/-! ### one step of the iterator -/
def World.setIt (w : World) (r : Nat) (s : ByteArray) (p : Nat) : World := { w with heap := w.heap.setIfInBounds r (.stringIter s p) }
theorem setIt_size (w : World) (r : Nat) (s : ByteArray) (p : Nat) : (World.setIt w r s p).heap.size = w.heap.size := by simp [World.setIt]
theorem setIt_at {w : World} {r : Nat} (s : ByteArray) (p : Nat) (h : r < w.heap.size) : (World.setIt w r s p).heap[r]? = some (.stringIter s p) := by simp [World.setIt, h]
theorem setIt_ne (w : World) {r k : Nat} (s : ByteArray) (p : Nat) (h : k ≠ r) : (World.setIt w r s p).heap[k]? = w.heap[k]? := by
  simp only [World.setIt]
  rw [Array.getElem?_setIfInBounds]
  simp [Ne.symm h]
theorem emb_setIt {m : Mp} {B : Nat} {h : Hp} {w : World} (E : Emb m B h w) {r q : Nat} {s u : ByteArray} (hr : r < B) (hi : w.heap[r]? = some (.stringIter s q)) (p : Nat) : Emb m B h (World.setIt w r u p) := by
  have ne : ∀ {k : Nat} {c : Array Value} {t : TypeId} {z : Nat × Nat}, w.heap[k]? = some (.cells c t z) → k ≠ r := fun {k c t z} hk he => by
    subst he
    rw [hi] at hk
    cases hk
  refine ⟨E.len, fun b x hb ht => ?_, E.low, E.ros, E.inj, E.wf, by rw [setIt_size]; exact E.base, fun k h1 h2 => ?_, fun b x hb ha => ?_⟩
  · have hl := E.lies b x hb ht
    refine hl.congr (setIt_ne w u p ?_)
    obtain ⟨r', z, _, l1, _⟩ := hl
    exact ne l1
  · rw [setIt_size] at h2
    rw [setIt_ne w u p (by omega)]
    exact E.ice k h1 h2
  · obtain ⟨k1, r', t, z, k2⟩ := E.abs b x hb ha
    exact ⟨k1, r', t, z, by rw [setIt_ne w u p (ne k2)]; exact k2⟩
theorem exec_next {P : Program} {a : Act} {o : Oper} {x : Operand} (ho : o.op = .next x true) {r p : Nat} {s : ByteArray} (hx : a.eval x = .pointer (some ⟨r, 0, none⟩)) {w : World} (hi : w.heap[r]? = some (.stringIter s p)) (hp : p < s.size) :
    (execOp a.eval o).run P w = .ok (.value (.tuple #[.bool true, .int .i64 p, .int .i32 (Utf8.decode s p).1])) (World.setIt w r s (p + (Utf8.decode s p).2)) := by
  unfold execOp
  rw [ho]
  simp [hx, Instr.next, getObj, setObj, Sem.run, hi, hp, goInt, World.setIt]
theorem exec_over {P : Program} {a : Act} {o : Oper} {x : Operand} (ho : o.op = .next x true) {r p : Nat} {s : ByteArray} (hx : a.eval x = .pointer (some ⟨r, 0, none⟩)) {w : World} (hi : w.heap[r]? = some (.stringIter s p)) (hp : ¬ p < s.size) :
    (execOp a.eval o).run P w = .ok (.value (.tuple #[.bool false])) w := by
  unfold execOp
  rw [ho]
  simp [hx, Instr.next, getObj, Sem.run, hi, hp]
theorem exec_extract {P : Program} {a : Act} {o : Oper} {x : Operand} {k : Nat} (ho : o.op = .extract x k) {vs : Array Value} {v : Value} (hx : a.eval x = .tuple vs) (hv : vs[k]? = some v) (w : World) : (execOp a.eval o).run P w = .ok (.value v) w := by
  unfold execOp
  rw [ho]
  simp [hx, Instr.extract, hv]
/-- what the iterator gives at p -/
def itV (s : ByteArray) (p : Nat) : Value := .tuple #[.bool true, .int .i64 p, .int .i32 (Utf8.decode s p).1]
theorem RunsI.step {T : Tab} {r : Nat} {s : ByteArray} {id : Nat} {o1 o2 : Oper} (g1 : o1.guard = none) (g2 : o2.guard = none) {j d1 d2 : Nat} (e1 : o1.op = .next (.tmp j) true) (e2 : o2.op = .extract (.tmp d1) 0) (k1 : o1.dst = some d1) (k2 : o2.dst = some d2)
    {t : List Value} {h : Hp} {sc : List Dec} {p : Nat} (hj : t[j]? = some (.iface dead (.pointer (some ⟨r, 0, none⟩)))) (hd : d1 < t.length) :
    RunsI T (.region id #[o1, o2] false) r s p (t, h, sc) fun e y q => e = none ∧ y.2.1 = h ∧ ((p < s.size ∧ q = p + (Utf8.decode s p).2 ∧ y.1 = (t.set d1 (itV s p)).set d2 (.bool true)) ∨ (¬ p < s.size ∧ q = p ∧ y.1 = (t.set d1 (.tuple #[.bool false])).set d2 (.bool false))) := by
  intro m B a w R hr hi Q hQ
  refine wp_region ?_
  show wpOps T.P #[o1, o2] _ [0, 1] a w
  rw [wpOps_cons]
  have ev1 : a.eval (.tmp j) = .pointer (some ⟨r, 0, none⟩) := by
    rw [eval_mv R.tmps (x := .tmp j) rfl]
    simp [ev, List.getD, hj, mv, mv2, mv1]
  have hB := R.emb.base
  by_cases hp : p < s.size
  · refine op_value (o := o1) (by rfl) g1 (exec_next e1 ev1 hi hp) ?_
    rw [k1, wpOps_cons]
    have E1 := emb_setIt (u := s) R.emb hr hi (p + (Utf8.decode s p).2)
    have R0 : Rel m B (t, h, sc) a (World.setIt w r s (p + (Utf8.decode s p).2)) := ⟨R.tmps, R.dfr, E1, R.wf⟩
    have m1 : mv m (itV s p) = itV s p := by simp [itV, mv, mv2, mv1]
    have R1 := R0.put (v := itV s p) (Agree.refl _ _) E1 (Nat.le_refl _) (by simp [itV, lt, lt2, lt1]) (some d1) []
    rw [m1] at R1
    have ev2 : (a.put (some d1) (itV s p)).eval (.tmp d1) = itV s p := by
      rw [eval_mv R1.tmps (x := .tmp d1) rfl]
      simp [ev, putL, List.getD, hd, m1]
    refine op_value (o := o2) (v := .bool true) (by rfl) g2 (exec_extract e2 ev2 (by rfl) _) ?_
    rw [k2]
    show Q .normal _ _
    have R2 := R1.put (v := .bool true) (Agree.refl _ _) E1 (Nat.le_refl _) (by simp [lt, lt2, lt1]) (some d2) []
    have m2 : mv m (.bool true) = .bool true := by simp [mv, mv2, mv1]
    rw [m2] at R2
    exact hQ none _ _ ⟨rfl, rfl, .inl ⟨hp, rfl, rfl⟩⟩ m _ _ R2 ⟨rfl, rfl, rfl, by rw [setIt_size]; exact Nat.le_refl _, fun k _ hk => setIt_ne w s _ hk⟩ (setIt_at s _ (by omega))
  · refine op_value (o := o1) (by rfl) g1 (exec_over e1 ev1 hi hp) ?_
    rw [k1, wpOps_cons]
    have m1 : mv m (.tuple #[.bool false]) = .tuple #[.bool false] := by simp [mv, mv2, mv1]
    have R1 := R.put (v := .tuple #[.bool false]) (Agree.refl _ _) R.emb (Nat.le_refl _) (by simp [lt, lt2, lt1]) (some d1) []
    rw [m1] at R1
    have ev2 : (a.put (some d1) (.tuple #[.bool false])).eval (.tmp d1) = .tuple #[.bool false] := by
      rw [eval_mv R1.tmps (x := .tmp d1) rfl]
      simp [ev, putL, List.getD, hd, m1]
    refine op_value (o := o2) (v := .bool false) (by rfl) g2 (exec_extract e2 ev2 (by rfl) _) ?_
    rw [k2]
    show Q .normal _ _
    have R2 := R1.put (v := .bool false) (Agree.refl _ _) R.emb (Nat.le_refl _) (by simp [lt, lt2, lt1]) (some d2) []
    have m2 : mv m (.bool false) = .bool false := by simp [mv, mv2, mv1]
    rw [m2] at R2
    exact hQ none _ _ ⟨rfl, rfl, .inr ⟨hp, rfl, rfl⟩⟩ m _ _ R2 (BelowI.of (Below.refl _ _)) hi
end Go.KRun
namespace Go.Proofs.YtjlponbdflkbjaaGreatDoor.Na
open Go.KRun
set_option maxRecDepth 100000
set_option linter.unusedVariables false
/-- whether a letter is no digit -/
def oddI (c : Int) : Bool := decide (c < 48) || decide (c > 57)
def fO : Value := .func (.func 109) #[] #[]
theorem od_t (c : Int) : Fits (reckon (tabOf Tryz.prog extY conN true) 100 109 [.int .i32 c] [cmp true]) (.bool true) [(decide (c < 48), true)] := ⟨by kernel_rfl, by kernel_rfl, by kernel_rfl, by kernel_rfl⟩
theorem od_f (c : Int) (d : Bool) : Fits (reckon (tabOf Tryz.prog extY conN true) 100 109 [.int .i32 c] [cmp false, cmp d]) (.bool d) [(decide (c > 57), d), (decide (c < 48), false)] := ⟨by kernel_rfl, by kernel_rfl, by kernel_rfl, by kernel_rfl⟩
def gOd : Ans := fun vals s =>
  match vals, s with
  | [.int .i32 c], .inr (.inr (.inr (.inl d))) :: s' => some (.bool d, s', [(oddI c, d)])
  | _, _ => none
theorem gOd_ok : AnsOk 109 gOd := by
  intro vals s v s' lg h hl w
  unfold gOd at h
  split at h
  · rename_i c d s2
    cases h
    have hd : oddI c = d := hl _ (List.mem_singleton.2 rfl)
    unfold oddI at hd
    by_cases h1 : c < 48
    · rw [decide_eq_true h1, Bool.true_or] at hd
      subst hd
      exact fits_calls (tabY_ok conN_ok) (od_t c) (okL1 (decide_eq_true h1)) (by rfl) (by rfl) w
    · rw [decide_eq_false h1, Bool.false_or] at hd
      exact fits_calls (tabY_ok conN_ok) (od_f c d) (okCons hd (okL1 (decide_eq_false h1))) (by rfl) (by rfl) w
  · cases h
def conOd : Con := alt 109 gOd conN
theorem conOd_ok : ConOk conOd := alt_ok Tryz.func109 rfl gOd_ok conN_ok
noncomputable def tabOd : Tab := tabOf Tryz.prog extY conOd true
theorem tabOd_ok : TabOk tabOd := tabY_ok conOd_ok
def iR0 (F : Func) : Code := cFst (cBody F)
def iR1 (F : Func) : Code := cFst (cFst (cSnd (cBody F)))
def iLp (F : Func) : Code := cSnd (cFst (cSnd (cBody F)))
def iFn (F : Func) : Code := cSnd (cSnd (cBody F))
def iR2 (F : Func) : Code := cFst (cIn (cIn (iLp F)))
def iBd (F : Func) : Code := cSnd (cIn (cIn (iLp F)))
def iF (s : ByteArray) (a : Nat → Value) : List Value := [.string s, fO, .bool true, a 3, a 4, a 5, .int .i64 0, a 7, a 8, a 9]
def itR9 (r : Nat) : Value := .iface dead (.pointer (some ⟨r, 0, none⟩))
def dgT9 (q c : Int) : Value := .tuple #[.bool true, .int .i64 q, .int .i32 c]
theorem ix_go (s : ByteArray) (q c : Int) (r : Nat) (a g : Nat → Value) : GoesT (evC tabOd 300 false (iBd Tryz.f145) (iF s a ++ [itR9 r, dgT9 q c, .bool true] ++ tl 8 g, hT1, [cmp false]) ⟨[], [], []⟩) 11 10 none [.string s, fO, .bool true, a 3, a 4, a 5, .int .i64 0, .int .i64 q, .int .i32 c, a 9, itR9 r] hT1 [(oddI c, false)] := ⟨by kernel_rfl, by kernel_rfl, by kernel_rfl⟩
theorem ix_at (s : ByteArray) (q c : Int) (r : Nat) (a g : Nat → Value) : GoesT (evC tabOd 300 false (iBd Tryz.f145) (iF s a ++ [itR9 r, dgT9 q c, .bool true] ++ tl 8 g, hT1, [cmp true]) ⟨[], [], []⟩) 7 14 (some none) [.string s, fO, .bool true, a 3, a 4, a 5, .int .i64 q] hT1 [(oddI c, true)] := ⟨by kernel_rfl, by kernel_rfl, by kernel_rfl⟩
theorem ix_out (s : ByteArray) (r : Nat) (a g : Nat → Value) : GoesT (evC tabOd 300 false (iBd Tryz.f145) (iF s a ++ [itR9 r, .tuple #[.bool false], .bool false] ++ tl 8 g, hT1, []) ⟨[], [], []⟩) 10 11 (some (some 0)) (iF s a) hT1 [] := ⟨by kernel_rfl, by kernel_rfl, by kernel_rfl⟩
theorem ix_fin (s : ByteArray) (a g : Nat → Value) : GoesT (evC tabOd 300 false (iFn Tryz.f145) (iF s a ++ tl 11 g, hT1, []) ⟨[], [], []⟩) 7 14 (some none) [.string s, fO, .bool true, a 3, a 4, a 5, .int .i64 (-1)] hT1 [] := ⟨by kernel_rfl, by kernel_rfl, by kernel_rfl⟩
theorem ix_hd (s : ByteArray) : GoesT (evL tabOd 300 [iR0 Tryz.f145] ([.string s, fO, .bool true] ++ List.replicate 18 undef, ⟨0, []⟩, []) ⟨[], [], []⟩) 7 14 none [.string s, fO, .bool true, undef, undef, undef, .int .i64 0] ⟨0, []⟩ [] := ⟨by kernel_rfl, by kernel_rfl, by kernel_rfl⟩
/-- the letter at k, as a number -/
def byT (s : ByteArray) (k : Nat) : Int := ((s.data.toList.getD k 0).toNat : Nat)
/-- the first of the last n letters that is no digit -/
def ixR (s : ByteArray) : Nat → Int
  | 0 => -1
  | n + 1 => if oddI (byT s (s.size - (n + 1))) = true then ((s.size - (n + 1) : Nat) : Int) else ixR s n
def ixV (s : ByteArray) : Int := ixR s s.size
def rOpsT : Code → Array Oper
  | .region _ ops _ => ops
  | _ => #[]
def opAtT (c : Code) (k : Nat) : Oper := ((rOpsT c)[k]?).getD ⟨none, .move (.tmp 0), 0, "", #[], none⟩
theorem iLp_is : iLp Tryz.f145 = .block 0 (.loop (.seq (.region 2 #[opAtT (iR2 Tryz.f145) 0, opAtT (iR2 Tryz.f145) 1] false) (iBd Tryz.f145))) := by kernel_rfl
theorem iR1_is : iR1 Tryz.f145 = .region 1 #[opAtT (iR1 Tryz.f145) 0, opAtT (iR1 Tryz.f145) 1] false := by kernel_rfl
theorem iB_is : cBody Tryz.f145 = seqs [iR0 Tryz.f145] (.seq (.seq (iR1 Tryz.f145) (iLp Tryz.f145)) (iFn Tryz.f145)) := by kernel_rfl
theorem get_byT {s : ByteArray} {p : Nat} (h : p < s.size) : byT s p = ((s[p]'h).toNat : Nat) := by
  unfold byT
  have e : s.data.toList.getD p 0 = s[p]'h := by
    have h2 : p < s.data.toList.length := h
    simp only [List.getD, List.getElem?_eq_getElem h2, Option.getD_some]
    rfl
  rw [e]
theorem rune_odd {s : ByteArray} {p : Nat} (h : p < s.size) : oddI (((Utf8.decode s p).1 : Nat) : Int) = oddI (byT s p) ∧ (oddI (byT s p) = false → (Utf8.decode s p).2 = 1) := by
  by_cases ha : (s[p]'h).toNat < 128
  · rw [decode_ascii s p h ha, get_byT h]
    exact ⟨rfl, fun _ => rfl⟩
  · have hd := (decode_high s p h (by omega)).1
    have e1 : oddI (byT s p) = true := by
      rw [get_byT h]
      unfold oddI
      rw [decide_eq_true (show (((s[p]'h).toNat : Nat) : Int) > 57 by omega), Bool.or_true]
    refine ⟨?_, fun h' => by rw [e1] at h'; cases h'⟩
    rw [e1]
    unfold oddI
    rw [decide_eq_true (show (((Utf8.decode s p).1 : Nat) : Int) > 57 by omega), Bool.or_true]
theorem ixR_step {s : ByteArray} {q : Nat} (h : q < s.size) : ixR s (s.size - q) = if oddI (byT s q) = true then (q : Int) else ixR s (s.size - (q + 1)) := by
  obtain ⟨n, hn⟩ : ∃ n, s.size - q = n + 1 := ⟨s.size - q - 1, by omega⟩
  rw [hn, show s.size - (q + 1) = n by omega]
  simp only [ixR]
  rw [show s.size - (n + 1) = q by omega]
theorem ix_loop {s : ByteArray} (r : Nat) (a g : Nat → Value) (x y : Value) :
    RunsI tabOd (iLp Tryz.f145) r s 0 (iF s a ++ [itR9 r, x, y] ++ tl 8 g, hT1, []) fun e z _ => z.2.1 = hT1 ∧ match e with
      | none => ixV s = -1 ∧ ∃ a g, z.1 = iF s a ++ tl 11 g
      | some none => ∃ u v w g, z.1 = [.string s, fO, .bool true, u, v, w, .int .i64 (ixV s)] ++ tl 14 g
      | some (some _) => False := by
  rw [iLp_is]
  refine (RunsI.forLoop (P := fun z _ => z.2.1 = hT1 ∧ ixV s = -1 ∧ ∃ a g, z.1 = iF s a ++ tl 11 g)
    (R := fun z _ => z.2.1 = hT1 ∧ ∃ u v w g, z.1 = [.string s, fO, .bool true, u, v, w, .int .i64 (ixV s)] ++ tl 14 g)
    (fun n z q => n + q = s.size ∧ ixR s (s.size - q) = ixV s ∧ z.2.1 = hT1 ∧ ∃ a x y g, z.1 = iF s a ++ [itR9 r, x, y] ++ tl 8 g) ?_ (n := s.size) ⟨by omega, rfl, rfl, a, x, y, g, rfl⟩).mono fun e z q he => ?_
  · rintro n ⟨t, h', sc⟩ q ⟨hn, hA, hh, a, x, y, g, ht⟩
    simp only at hh ht
    subst hh ht
    refine RunsI.seq (RunsI.step (j := 10) (d1 := 11) (d2 := 12) (by kernel_rfl) (by kernel_rfl) (by kernel_rfl) (by kernel_rfl) (by kernel_rfl) (by kernel_rfl) (by rfl) (by simp [iF, tl])) ?_ (fun e y q he => by cases he.1)
    rintro ⟨t, h', sc'⟩ q' ⟨_, hh, hc⟩
    simp only at hh
    subst hh
    rcases hc with ⟨hq, hq', ht⟩ | ⟨hq, hq', ht⟩
    · simp only at ht
      have et : t = iF s a ++ [itR9 r, dgT9 (q : Nat) ((Utf8.decode s q).1 : Nat), .bool true] ++ tl 8 g := by rw [ht]; rfl
      subst et
      obtain ⟨r1, r2⟩ := rune_odd hq
      rw [ixR_step hq] at hA
      cases hk : oddI (byT s q) with
      | false =>
        rw [hk, if_neg (by decide)] at hA
        refine ((goesT_runsW tabOd_ok (ix_go s (q : Nat) ((Utf8.decode s q).1 : Nat) r a g) (okL1 (r1.trans hk))).i).mono fun e z q2 he => ?_
        obtain ⟨rfl, rfl, ⟨g1, e2⟩, e3⟩ := he
        rw [r2 hk] at hq'
        refine ⟨n - 1, by omega, by omega, by rw [hq']; exact hA, e3, ?_⟩
        refine ⟨fun k => z.1.getD k undef, g1 0, g1 1, fun k => g1 (k + 2), ?_⟩
        rw [e2]
        rfl
      | true =>
        rw [hk, if_pos rfl] at hA
        refine ((goesT_runsW tabOd_ok (ix_at s (q : Nat) ((Utf8.decode s q).1 : Nat) r a g) (okL1 (r1.trans hk))).i).mono fun e z q2 he => ?_
        obtain ⟨rfl, rfl, ⟨g1, e2⟩, e3⟩ := he
        rw [hA] at e2
        exact ⟨e3, _, _, _, g1, e2⟩
    · simp only at ht
      have et : t = iF s a ++ [itR9 r, .tuple #[.bool false], .bool false] ++ tl 8 g := by rw [ht]; rfl
      subst et
      have hqs : q = s.size := by omega
      refine ((goesT_runsW tabOd_ok (ix_out s r a g) (fun x hx => by cases hx)).i).mono fun e z q2 he => ?_
      obtain ⟨rfl, rfl, ⟨g1, e2⟩, e3⟩ := he
      rw [hqs, Nat.sub_self] at hA
      exact ⟨rfl, e3, hA.symm, a, g1, e2⟩
  · match e, he with
    | none, he => exact he
    | some none, he => exact he
theorem ix_mid (s : ByteArray) : RunsW tabOd (cBody Tryz.f145) ([.string s, fO, .bool true] ++ List.replicate 18 undef, ⟨0, []⟩, []) fun e y => (e = none ∨ e = some none) ∧ resS Tryz.prog Tryz.f145 y.1 y.2.1 = some (.int .i64 (ixV s)) := by
  rw [iB_is]
  refine goesT_listW tabOd_ok (ix_hd s) okN9 fun g => ?_
  refine RunsW.seq (P1 := fun e z => z.2.1 = hT1 ∧ match e with
      | none => ixV s = -1 ∧ ∃ a g, z.1 = iF s a ++ tl 11 g
      | some none => ∃ u v w g, z.1 = [.string s, fO, .bool true, u, v, w, .int .i64 (ixV s)] ++ tl 14 g
      | some (some _) => False) ?_ ?_ ?_
  · rw [iR1_is]
    refine RunsW.overString (j := 0) (d1 := 9) (d2 := 10) (ty := 9) (by kernel_rfl) (by kernel_rfl) (by kernel_rfl) (by kernel_rfl) (by kernel_rfl) (by kernel_rfl) (by kernel_rfl) (by rfl) (by simp [tl]) fun r => ?_
    have et : (([.string s, fO, .bool true, undef, undef, undef, .int .i64 0] ++ tl 14 g).set 9 (.string s)).set 10 (.iface dead (.pointer (some ⟨r, 0, none⟩))) =
        iF s (fun k => (([.string s, fO, .bool true, undef, undef, undef, .int .i64 0] ++ tl 14 g).set 9 (.string s)).getD k undef) ++ [itR9 r, g 4, g 5] ++ tl 8 (fun k => g (k + 6)) := by rfl
    rw [et]
    exact (ix_loop r _ _ _ _).mono fun e z q he => ⟨he.1, he⟩
  · rintro ⟨t, h', sc⟩ ⟨hh, hA, a, g1, ht⟩
    simp only at hh ht
    subst hh ht
    refine (goesT_runsW tabOd_ok (ix_fin s a g1) (fun x hx => by cases hx)).mono fun e z he => ?_
    obtain ⟨rfl, ⟨g2, e2⟩, e3⟩ := he
    refine ⟨.inr rfl, ?_⟩
    rw [e2, e3, hA]
    rfl
  · rintro e ⟨t, h', sc⟩ ⟨hh, hc⟩
    match e, hc with
    | none, hc =>
      obtain ⟨u, v, w, g1, ht⟩ := hc
      simp only at hh ht
      subst hh ht
      exact ⟨.inr rfl, rfl⟩
theorem ix_calls (s : ByteArray) (w : World) : Calls Tryz.prog 145 #[.string s, fO, .bool true] w fun e w' => e = .returned (.int .i64 (ixV s)) ∧ Tidy w w' :=
  calls_of_runsW (T := tabOd) (c := cBody Tryz.f145) (vals := [.string s, fO, .bool true]) Tryz.func145 (by kernel_rfl) (by rfl) (by rfl) (ix_mid s) w
/-- the function value is Parse's own: looked at by its number -/
def gIx : Ans := fun vals s =>
  match vals with
  | [.string b, .func (.func f) ⟨[]⟩ ⟨[]⟩, .bool true] => some (.int .i64 (ixV b), s, [(Nat.beq f 109, true)])
  | _ => none
theorem gIx_ok : AnsOk 145 gIx := by
  intro vals s v s' lg h hl w
  unfold gIx at h
  split at h
  · rename_i b f
    cases h
    have hf := Nat.eq_of_beq_eq_true (hl _ (List.mem_singleton.2 rfl))
    subst hf
    exact ix_calls b w
  · cases h
def conIx : Con := alt 145 gIx conN
theorem conIx_ok : ConOk conIx := alt_ok Tryz.func145 rfl gIx_ok conN_ok
theorem cf_fits (s : ByteArray) (d : Bool) : Fits (reckon (tabOf Tryz.prog extY conIx true) 100 110 [.string s, fO] [cmp d]) (.bool d) [(decide (ixV s ≥ 0), d), (true, true)] := ⟨by kernel_rfl, by kernel_rfl, by kernel_rfl, by kernel_rfl⟩
/-- whether a letter is no digit, told ahead -/
def gCf : Ans := fun vals s =>
  match vals, s with
  | [.string b, .func (.func f) ⟨[]⟩ ⟨[]⟩], .inr (.inr (.inr (.inl d))) :: s' => some (.bool d, s', [(decide (ixV b ≥ 0), d), (Nat.beq f 109, true)])
  | _, _ => none
theorem gCf_ok : AnsOk 110 gCf := by
  intro vals s v s' lg h hl w
  unfold gCf at h
  split at h
  · rename_i b f d s2
    cases h
    have h1 := hl _ List.mem_cons_self
    have hf := Nat.eq_of_beq_eq_true (hl _ (List.mem_cons_of_mem _ (List.mem_singleton.2 rfl)))
    subst hf
    exact fits_calls (tabY_ok conIx_ok) (cf_fits b d) (okCons h1 (okL1 rfl)) (by rfl) (by rfl) w
  · cases h
/-- all letters are digits -/
def allD (s : ByteArray) : Prop := ∀ j, j < s.size → oddI (byT s j) = false
theorem ixR_neg (s : ByteArray) : ∀ n, n ≤ s.size → (ixR s n < 0 ↔ ∀ j, s.size - n ≤ j → j < s.size → oddI (byT s j) = false)
  | 0, _ => by simp [ixR]; intro j h1 h2; omega
  | n + 1, hn => by
    simp only [ixR]
    cases hk : oddI (byT s (s.size - (n + 1))) with
    | true =>
      rw [if_pos rfl]
      constructor
      · intro h; omega
      · intro h
        have := h (s.size - (n + 1)) (Nat.le_refl _) (by omega)
        rw [hk] at this
        cases this
    | false =>
      rw [if_neg (by decide), ixR_neg s n (by omega)]
      constructor
      · intro h j h1 h2
        by_cases h3 : j = s.size - (n + 1)
        · rw [h3]; exact hk
        · exact h j (by omega) h2
      · intro h j h1 h2
        exact h j (by omega) h2
theorem ix_digits (s : ByteArray) : ¬ ixV s ≥ 0 ↔ allD s := by
  have h := ixR_neg s s.size (Nat.le_refl _)
  unfold ixV allD
  constructor
  · intro h1 j hj
    exact h.1 (by omega) j (by omega) hj
  · intro h1 h2
    have := h.2 fun j _ hj => h1 j hj
    omega
end Go.Proofs.YtjlponbdflkbjaaGreatDoor.Na
namespace Go.Proofs.YtjlponbdflkbjaaGreatDoor.Na
open Go.KRun Go.Nt
set_option maxRecDepth 100000
theorem cutI_wT (W : List Int) (k : Nat) : cutI (wU W) 0 k = W.take k := by
  unfold cutI cutV wU
  rw [List.drop_zero, ← List.map_take, List.map_map]
  exact (List.map_congr_left fun x _ => rfl).trans (List.map_id' _)
end Go.Proofs.YtjlponbdflkbjaaGreatDoor.Na
namespace Go.Proofs.YtjlponbdflkbjaaGreatDoor.Na
open Go.KRun
set_option maxRecDepth 100000
theorem logB {x : Bool × Bool} {l : Log} (h : okLog (x :: l)) : x.1 = x.2 ∧ okLog l := ⟨h _ List.mem_cons_self, fun y hy => h y (List.mem_cons_of_mem _ hy)⟩
end Go.Proofs.YtjlponbdflkbjaaGreatDoor.Na
namespace Go.Proofs.YtjlponbdflkbjaaGreatDoor.Na
open Go.KRun Go.Nt
set_option maxRecDepth 100000
theorem wU_allS (L : List Int) : (wU L).all still = true := by
  unfold wU
  rw [List.all_eq_true]
  intro v hv
  obtain ⟨x, _, rfl⟩ := List.mem_map.1 hv
  rfl
end Go.Proofs.YtjlponbdflkbjaaGreatDoor.Na
namespace Go.Nt
theorem dg_mod : ∀ (m : Nat) (V c : Int), dg m (V + 4294967296 ^ m * c) = dg m V
  | 0, _, _ => rfl
  | m + 1, V, c => by
    simp only [dg]
    rw [pw, Int.mul_assoc]
    generalize hZ : (4294967296 : Int) ^ m * c = Z
    have e1 : (V + 4294967296 * Z) % 4294967296 = V % 4294967296 := by omega
    have e2 : (V + 4294967296 * Z) / 4294967296 = V / 4294967296 + Z := by omega
    rw [e1, e2, ← hZ, dg_mod m]
/-- the two powers of a move by less than a word -/
theorem two_parts {k : Nat} (h : k ≤ 32) : (2 : Int) ^ k * 2 ^ (32 - k) = 4294967296 := by
  rw [← Int.pow_add, show k + (32 - k) = 32 from by omega]
  rfl
theorem or_add {k : Nat} {z y : Int} (z0 : 0 ≤ z) (y0 : 0 ≤ y) (y1 : y < 2 ^ k) (hs : 2 ^ k * z + y < 4294967296) : (((BitVec.ofInt 32 (2 ^ k * z) ||| BitVec.ofInt 32 y).toNat : Nat) : Int) = 2 ^ k * z + y := by
  obtain ⟨Z, rfl⟩ := Int.eq_ofNat_of_zero_le z0
  obtain ⟨Y, rfl⟩ := Int.eq_ofNat_of_zero_le y0
  have ex : (2 : Int) ^ k * (Z : Nat) = ((2 ^ k * Z : Nat) : Int) := by simp
  have hY : Y < 2 ^ k := by
    have : ((Y : Nat) : Int) < ((2 ^ k : Nat) : Int) := by simpa using y1
    exact Int.ofNat_lt.1 this
  rw [ex] at hs ⊢
  have hX : 2 ^ k * Z + Y < 4294967296 := by omega
  have e1 : ∀ m : Nat, m < 4294967296 → (BitVec.ofInt 32 (m : Int)).toNat = m := fun m hm => by
    simp
    omega
  rw [BitVec.toNat_or, e1 _ (by omega), e1 _ (by omega), ← Nat.two_pow_add_eq_or_of_lt hY]
  omega
/-- one word moved up -/
theorem up_word {x l q r : Int} (hq : 1 ≤ q) (hr : 1 ≤ r) (hqr : q * r = 4294967296) (hx : 0 ≤ x ∧ x < 4294967296) (hl : 0 ≤ l ∧ l < q) :
    x * q = 4294967296 * (x / r) + q * (x % r) ∧ 0 ≤ q * (x % r) ∧ q * (x % r) + l < 4294967296 ∧ 0 ≤ x / r ∧ x / r < q := by
  have h1 := Int.mul_ediv_add_emod x r
  have h2 := Int.emod_nonneg x (show r ≠ 0 by omega)
  have h3 := Int.emod_lt_of_pos x (show 0 < r by omega)
  have h4 : 0 ≤ x / r := Int.ediv_nonneg hx.1 (by omega)
  generalize x / r = hi at *
  generalize x % r = lo at *
  have e1 : x * q = 4294967296 * hi + q * lo := by
    rw [← h1, ← hqr, Int.add_mul, Int.mul_assoc q r hi, Int.mul_comm (r * hi) q, Int.mul_comm lo q]
  have e2 : q * lo + q ≤ 4294967296 := by
    have := Int.mul_le_mul_of_nonneg_left (show lo + 1 ≤ r by omega) (show 0 ≤ q by omega)
    rw [Int.mul_add, Int.mul_one, hqr] at this
    exact this
  refine ⟨e1, Int.mul_nonneg (by omega) h2, by omega, h4, ?_⟩
  rcases Int.lt_or_le hi q with h | h
  · exact h
  · exfalso
    have := Int.mul_le_mul_of_nonneg_left h (show 0 ≤ r by omega)
    rw [Int.mul_comm r q, hqr] at this
    omega
/-- one word more of a number moved up -/
theorem up_step {P a b q x l d e A : Int} (he : x * q + l = d + 4294967296 * e) (h : a + P * ((x + 4294967296 * A) * q + l) = b) : a + P * d + 4294967296 * P * (A * q + e) = b := by
  rw [← h]
  have e1 : (x + 4294967296 * A) * q + l = d + 4294967296 * (A * q + e) := by
    rw [Int.add_mul, Int.mul_assoc]
    omega
  rw [e1]
  generalize A * q + e = Z
  rw [Int.mul_add P d, ← Int.mul_assoc P 4294967296 Z, Int.mul_comm P 4294967296]
  omega
end Go.Nt
namespace Go.Proofs.YtjlponbdflkbjaaGreatDoor.Na
open Go.KRun Go.Nt
set_option maxRecDepth 100000
def upU (x k : Int) : Int := IntKind.u32.wrap (x * 2 ^ min k.toNat 32)
def newU (x k l : Int) : Int := brr (upU x k) l
def lowU (x k : Int) : Int := x.fdiv (2 ^ min (IntKind.i64.wrap (32 - k)).toNat 32)
theorem up32 {x l : Int} {k : Nat} (hx : 0 ≤ x ∧ x < 4294967296) (hl : 0 ≤ l ∧ l < 2 ^ k) (hk : k < 32) :
    (0 ≤ newU x k l ∧ newU x k l < 4294967296) ∧ (0 ≤ lowU x k ∧ lowU x k < 2 ^ k) ∧ x * 2 ^ k + l = newU x k l + 4294967296 * lowU x k := by
  have q1 : (1 : Int) ≤ 2 ^ k := by have : (0 : Int) < 2 ^ k := Int.pow_pos (by omega); omega
  have r1 : (1 : Int) ≤ 2 ^ (32 - k) := by have : (0 : Int) < 2 ^ (32 - k) := Int.pow_pos (by omega); omega
  obtain ⟨u1, u2, u3, u4, u5⟩ := up_word q1 r1 (two_parts (by omega)) hx hl
  have eL : lowU x k = x / 2 ^ (32 - k) := by
    unfold lowU
    rw [wrapI (by omega) (by omega), show min ((32 : Int) - (k : Nat)).toNat 32 = 32 - k from by omega, Int.fdiv_eq_ediv_of_nonneg _ (by omega)]
  have eU : upU x k = 2 ^ k * (x % 2 ^ (32 - k)) := by
    unfold upU
    rw [Int.toNat_natCast, show min k 32 = k from by omega, u32w, u1]
    omega
  have lo0 := Int.emod_nonneg x (show (2 : Int) ^ (32 - k) ≠ 0 by omega)
  have eN : newU x k l = 2 ^ k * (x % 2 ^ (32 - k)) + l := by
    unfold newU brr
    rw [eU, or_add lo0 hl.1 hl.2 u3, u32w]
    omega
  rw [eL, eN]
  omega
def mR0 (F : Func) : List Code := [cFst (cBody F), cFst (cSnd (cBody F))]
def mL (F : Func) : Code := cIn (cIn (cSnd (cSnd (cBody F))))
theorem mup_body : Tryz.f119.body = some (seqs (mR0 Tryz.f119) (.block 0 (.loop (mL Tryz.f119)))) := by kernel_rfl
def mF (w k l i x s n j : Value) : List Value := [w, k, undef, undef, l, i, x, s, n, j]
def hU (S la : List Value) : Hp := ⟨2, [(S, tU), (la, tR)]⟩
theorem mup_pre (b o n c : Nat) (k : Value) (h : Hp) : GoesT (evL (tabOf Tryz.prog extY conN true) 100 (mR0 Tryz.f119) ([sl b o n c, k] ++ List.replicate 25 undef, h, []) ⟨[], [], []⟩) 10 17 none (mF (sl b o n c) k (uu 0) undef undef (sl b o n c) (i6' n) (i6' 0)) h [] := ⟨by kernel_rfl, by kernel_rfl, by kernel_rfl⟩
theorem mup_out (w k l i x s : Value) (n : Nat) (j : Int) (h : Hp) (g : Nat → Value) : GoesT (evC (tabOf Tryz.prog extY conN true) 100 false (mL Tryz.f119) (mF w k l i x s (i6' n) (i6' j) ++ tl 17 g, h, [cmp false]) ⟨[], [], []⟩) 10 17 (some (some 0)) (mF w k l i x s (i6' n) (i6' j)) h [(decide (j < n), false)] := ⟨by kernel_rfl, by kernel_rfl, by kernel_rfl⟩
theorem mup_go (o n c : Nat) (k l j x : Int) (i0 x0 : Value) (la S : List Value) (g : Nat → Value) : GoesT (evC (tabOf Tryz.prog extY conN true) 100 false (mL Tryz.f119) (mF (sl 1 o n c) (i6' k) (uu l) i0 x0 (sl 1 o n c) (i6' n) (i6' j) ++ tl 17 g, hU S la, [cmp true, at_, val (uu x), at_, at_]) ⟨[], [], []⟩) 10 17 none
    (mF (sl 1 o n c) (i6' k) (uu (lowU x k)) (i6' j) (uu x) (sl 1 o n c) (i6' n) (i6' (IntKind.i64.wrap (j + 1)))) (hU (S.set (o + j.toNat * 1) (uu (newU x k l))) la) [(decide (IntKind.i64.wrap (32 - k) < 0), false), (decide (o + j.toNat * 1 < S.length), true), inR j n, (decide (k < 0), false), celR S o j x, inR j n, (decide (j < n), true)] := ⟨by kernel_rfl, by kernel_rfl, by kernel_rfl⟩
theorem mup_res (w k l i x s n j : Value) (h : Hp) (g : Nat → Value) : resS Tryz.prog Tryz.f119 (mF w k l i x s n j ++ tl 17 g) h = some (.tuple #[]) := by kernel_rfl
end Go.Proofs.YtjlponbdflkbjaaGreatDoor.Na
