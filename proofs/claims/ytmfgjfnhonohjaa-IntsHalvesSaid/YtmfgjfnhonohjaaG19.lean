/-
  ints.Of, ints.OfPlain, and what the laws of whole numbers of the machine call besides, as calls in every world.
-/
import Derived.Test.YtmfgjfnhonohjaaG18
import Derived.Test.YtmfgjfnhonohjaaG03
namespace Go.Proofs.Ytmfgjfnhonohjaa
open Go.KRun Go.Wd Go.Pt Go.Rn
set_option maxRecDepth 100000

def ofZ (n : Int) : Int := IntKind.u64.wrap (if IntKind.i64.wrap (0 - n) > n then IntKind.i64.wrap (0 - n) else n)
theorem ofZ_eq {n : Int} (h : Go.Pt.I n) : ofZ n = (n.natAbs : Nat) := by
  have h0 := h.1
  have h1 := h.2
  unfold ofZ
  by_cases hm : n = -9223372036854775808
  · rw [hm]
    rfl
  · rw [wrapI' (n := 0 - n) ⟨by omega, by omega⟩, wrapU]
    split <;> omega
/-- what Of and OfPlain answer -/
def oiP (m n : Int) : Int := sS (decide (n < 0)) (rnP m (decide (n < 0)) n.natAbs 0)
def oiF (m n : Int) : Int := rnF m (decide (n < 0)) n.natAbs 0
def opP (m k : Int) : Int := sS false (rnP m false k.toNat 0)
def opF (m k : Int) : Int := rnF m false k.toNat 0
theorem op_1 (k m : Int) : Fits (reckon (tabOf Try.prog extY conI1 true) 300 10 [.int .u64 k, .int .i64 m] []) (rdV m false (tw (wOne k) false) (clp 0 - 1)) [(decide (wOne k).ok, true)] := ⟨by kernel_rfl, by kernel_rfl, by kernel_rfl, by kernel_rfl⟩
theorem of_t (n m : Int) : Fits (reckon (tabOf Try.prog extY conI1 true) 300 8 [.int .i64 n, .int .i64 m] [cmp true]) (rdV m true (tw (wOne (ofZ n)) false) (clp 0 - 1)) [(decide (wOne (ofZ n)).ok, true), (decide (n < 0), true)] := ⟨by kernel_rfl, by kernel_rfl, by kernel_rfl, by kernel_rfl⟩
theorem of_f (n m : Int) : Fits (reckon (tabOf Try.prog extY conI1 true) 300 8 [.int .i64 n, .int .i64 m] [cmp false]) (rdV m false (tw (wOne (ofZ n)) false) (clp 0 - 1)) [(decide (wOne (ofZ n)).ok, true), (decide (n < 0), false)] := ⟨by kernel_rfl, by kernel_rfl, by kernel_rfl, by kernel_rfl⟩
theorem nb_t (y : Int) : Fits (reckon (tabOf Try.prog extY conI1 true) 300 15 [.bool true, .int .u64 y] []) (.int .i64 (IntKind.i64.wrap (IntKind.u64.wrap (0 - y)))) [] := ⟨by kernel_rfl, by kernel_rfl, by kernel_rfl, by kernel_rfl⟩
theorem nb_f (y : Int) : Fits (reckon (tabOf Try.prog extY conI1 true) 300 15 [.bool false, .int .u64 y] []) (.int .i64 (IntKind.i64.wrap y)) [] := ⟨by kernel_rfl, by kernel_rfl, by kernel_rfl, by kernel_rfl⟩
theorem one_ok {k : Int} (h : U k) : (wOne k).ok := (w1_nat h.1 h.2).1
theorem one_rd {k : Int} (h : U k) (m : Int) (n : Bool) : rdV m n (tw (wOne k) false) (clp 0 - 1) = rdT (sS n (rnP m n k.toNat 0)) (rnF m n k.toNat 0) := by
  have e : (wOne k).nat = k.toNat := (w1_nat h.1 h.2).2
  rw [rd_w9 m n (one_ok h) (C := 0) (D := 0) (.inl rfl), e]
theorem op_calls (k m : Int) (hk : U k) (w : World) : Calls Try.prog 10 #[.int .u64 k, .int .i64 m] w fun r w' => r = .returned (rdT (opP m k) (opF m k)) ∧ Tidy w w' := by
  have T := tabY_ok conI1_ok
  have hv : ([.int .u64 k, .int .i64 m].all (lt 0)) = true := rfl
  have o := one_ok hk
  have hf := op_1 k m
  rw [one_rd hk] at hf
  exact fits_calls T hf (okL1 (decide_eq_true o)) hv (by rfl) w
theorem of_calls (n m : Int) (hn : Go.Pt.I n) (w : World) : Calls Try.prog 8 #[.int .i64 n, .int .i64 m] w fun r w' => r = .returned (rdT (oiP m n) (oiF m n)) ∧ Tidy w w' := by
  have T := tabY_ok conI1_ok
  have hv : ([.int .i64 n, .int .i64 m].all (lt 0)) = true := rfl
  have e := ofZ_eq hn
  have h0 := hn.1
  have h1 := hn.2
  have uk : U (ofZ n) := by rw [e]; exact ⟨by omega, by omega⟩
  have o := one_ok uk
  have en : (ofZ n).toNat = n.natAbs := by rw [e]; rfl
  unfold oiP oiF
  cases hd : decide (n < 0) with
  | true =>
    have hf := of_t n m
    rw [one_rd uk, en] at hf
    exact fits_calls T hf (okCons (decide_eq_true o) (okL1 hd)) hv (by rfl) w
  | false =>
    have hf := of_f n m
    rw [one_rd uk, en] at hf
    exact fits_calls T hf (okCons (decide_eq_true o) (okL1 hd)) hv (by rfl) w
def gOi : Ans := fun vals s =>
  match vals with
  | [.int .i64 n, .int .i64 m] => some (rdT (oiP m n) (oiF m n), s, [(decide (Go.Pt.I n), true)])
  | _ => none
theorem gOi_ok : AnsOk 8 gOi := by
  intro vals s v s' lg h hl w
  unfold gOi at h
  split at h
  · cases h
    exact of_calls _ _ (of_decide_eq_true (hl _ (List.mem_singleton.2 rfl))) w
  · cases h
def gOp : Ans := fun vals s =>
  match vals with
  | [.int .u64 k, .int .i64 m] => some (rdT (opP m k) (opF m k), s, [(decide (U k), true)])
  | _ => none
theorem gOp_ok : AnsOk 10 gOp := by
  intro vals s v s' lg h hl w
  unfold gOp at h
  split at h
  · cases h
    exact op_calls _ _ (of_decide_eq_true (hl _ (List.mem_singleton.2 rfl))) w
  · cases h
def nbV (b : Bool) (y : Int) : Int := match b with | true => IntKind.i64.wrap (IntKind.u64.wrap (0 - y)) | false => IntKind.i64.wrap y
def gNb : Ans := fun vals s =>
  match vals with
  | [.bool b, .int .u64 y] => some (.int .i64 (nbV b y), s, [])
  | _ => none
theorem gNb_ok : AnsOk 15 gNb := by
  intro vals s v s' lg h hl w
  unfold gNb at h
  split at h
  · rename_i b y
    cases h
    cases b with
    | true => exact fits_calls (tabY_ok conI1_ok) (nb_t y) okNil (by rfl) (by rfl) w
    | false => exact fits_calls (tabY_ok conI1_ok) (nb_f y) okNil (by rfl) (by rfl) w
  · cases h
def conI2 : Con := alt 8 gOi (alt 10 gOp (alt 12 (gPmt fun p m t => .tuple #[.int .i64 (tiI 9223372036854775808 9223372036854775807 m p), .int .u8 (tiF 9223372036854775808 9223372036854775807 m p t)]) (alt 14 (gPmt fun p m t => .tuple #[.int .u64 (tiI 0 18446744073709551615 m p), .int .u8 (tiF 0 18446744073709551615 m p t)]) (alt 16 (gPmt fun p m t => .tuple #[.int .i32 (tiI 2147483648 2147483647 m p), .int .u8 (tiF 2147483648 2147483647 m p t)]) (alt 17 (gPmt fun p m t => .tuple #[.int .u32 (tiI 0 4294967295 m p), .int .u8 (tiF 0 4294967295 m p t)]) conN)))))
theorem conI2_ok : ConOk conI2 := alt_ok Try.func8 rfl gOi_ok (alt_ok Try.func10 rfl gOp_ok (alt_ok Try.func12 rfl (gPmt_ok ti_calls) (alt_ok Try.func14 rfl (gPmt_ok tp_calls) (alt_ok Try.func16 rfl (gPmt_ok th_calls) (alt_ok Try.func17 rfl (gPmt_ok tq_calls) conN_ok)))))
theorem sure11 : Fits (reckon (tabOf Try.prog extY conI2 true) 300 11 [] [cmp true, cmp true, cmp true, cmp true, cmp true, cmp true]) (.bool true) [(oiF 0 (-2) == 0, true), (oiP 0 (-2) == 13835058055282163712, true), (tiF 9223372036854775808 9223372036854775807 3 4612811918334230528 false == 0, true), (tiI 9223372036854775808 9223372036854775807 3 4612811918334230528 == 3, true), (tiF 0 4294967295 0 13830554455654793216 false == 1, true), (tiI 0 4294967295 0 13830554455654793216 == 0, true), (decide (Go.Pt.I (-2)), true), (decide (U 4612811918334230528), true), (decide (U 13830554455654793216), true)] := ⟨by kernel_rfl, by kernel_rfl, by kernel_rfl, by kernel_rfl⟩
def gSure11 : Ans := fun vals s => match vals with | [] => some (.bool true, s, []) | _ => none
theorem gSure11_ok : AnsOk 11 gSure11 := by
  intro vals s v s' lg h hl w
  unfold gSure11 at h
  split at h
  · cases h
    exact fits_calls (tabY_ok conI2_ok) sure11 (okCons (by decide) (okCons (by decide) (okCons (by decide) (okCons (by decide) (okCons (by decide) (okCons (by decide) (okCons (by decide) (okCons (by decide) (okL1 (by decide)))))))))) (by rfl) (by rfl) w
  · cases h
def conI3 : Con := alt 11 gSure11 conI2
theorem conI3_ok : ConOk conI3 := alt_ok Try.func11 rfl gSure11_ok conI2_ok
end Go.Proofs.Ytmfgjfnhonohjaa

/-
  A RUN THAT THE KERNEL RECKONS, IX: code taken piece by piece, where a loop goes round as often as a letter says: what a piece comes to from a state of the reckoner's, in every world ('Runs'), and the rules: a piece that is reckoned, one behind the other, a block, a loop with an invariant; and a call out of its body.
-/
namespace Go.KRun
open Go.RowKit

/-- From state x the code c ends, in one of the ways that 'Post' tells. -/
def Runs (T : Tab) (c : Code) (x : Lf) (Post : Ex → Lf → Prop) : Prop :=
  ∀ m B a w, Rel m B x a w → ∀ Q : Exit → Act → World → Prop, (∀ e y, Post e y → ∀ a' w', Reach m B x.2.1.n w y a' w' → Q (out e) a' w') → c.wp T.P Q a w

theorem Runs.mono {T : Tab} {c : Code} {x : Lf} {P P' : Ex → Lf → Prop} (h : Runs T c x P) (hp : ∀ e y, P e y → P' e y) : Runs T c x P' :=
  fun m B a w R Q hQ => h m B a w R Q fun e y he => hQ e y (hp e y he)

/-- the decisions that are told ahead are no part of the state -/
theorem Runs.script {T : Tab} {c : Code} {t : List Value} {h : Hp} {s s' : List Dec} {P : Ex → Lf → Prop} (hr : Runs T c (t, h, s) P) : Runs T c (t, h, s') P :=
  fun m B a w R Q hQ => hr m B a w ⟨R.tmps, R.dfr, R.emb, R.wf⟩ Q hQ

theorem Runs.ev {T : Tab} (hT : TabOk T) {n : Nat} {c : Code} {x x' : Lf} {e : Ex} {L : Lg} (h : evC T n false c x ⟨[], [], []⟩ = some (e, x', L)) (hL : L.ok) : Runs T c x fun e' y => e' = e ∧ y = x' :=
  fun m B a w R Q hQ => ((evC_ok hT n).1 c x _ e x' L h hL).2 m B a w R Q fun a' w' hR => hQ e x' ⟨rfl, rfl⟩ a' w' hR

theorem Runs.seq {T : Tab} {c1 c2 : Code} {x : Lf} {P1 P : Ex → Lf → Prop} (h1 : Runs T c1 x P1) (h2 : ∀ y, P1 none y → Runs T c2 y P) (h3 : ∀ e y, P1 (some e) y → P (some e) y) : Runs T (.seq c1 c2) x P := by
  intro m B a w R Q hQ
  refine wp_seq (h1 m B a w R _ fun e y he a' w' hR => ?_)
  match e, he with
  | none, he =>
    obtain ⟨m', k1, k2, k3, k4⟩ := hR
    exact h2 y he m' B a' w' k2 Q fun e' y' he' a'' w'' hR' => hQ e' y' he' a'' w'' (Reach.trans k1 k3 k4 hR')
  | some none, he => exact hQ _ _ (h3 none y he) a' w' hR
  | some (some id), he => exact hQ _ _ (h3 (some id) y he) a' w' hR

theorem Runs.block {T : Tab} {c : Code} {id : Nat} {x : Lf} {P1 P : Ex → Lf → Prop} (h1 : Runs T c x P1) (h2 : ∀ y, P1 none y → P none y) (h3 : ∀ y, P1 (some none) y → P (some none) y)
    (h4 : ∀ y, P1 (some (some id)) y → P none y) (h5 : ∀ id' y, id' ≠ id → P1 (some (some id')) y → P (some (some id')) y) : Runs T (.block id c) x P := by
  intro m B a w R Q hQ
  refine wp_block (h1 m B a w R _ fun e y he a' w' hR => ?_)
  match e, he with
  | none, he => exact hQ _ _ (h2 y he) a' w' hR
  | some none, he => exact hQ _ _ (h3 y he) a' w' hR
  | some (some id'), he =>
    simp only [out, Exit.inBlock]
    by_cases hid : id' = id
    · subst hid
      rw [if_pos rfl]
      exact hQ _ _ (h4 y he) a' w' hR
    · rw [if_neg hid]
      exact hQ _ _ (h5 id' y hid he) a' w' hR

/-- a loop: 'Inv n x': at its head in state x, at most n rounds are left -/
theorem Runs.loop {T : Tab} {c : Code} {P : Ex → Lf → Prop} (Inv : Nat → Lf → Prop) (round : ∀ n x, Inv n x → Runs T c x fun e y => match e with | none => ∃ n', n' < n ∧ Inv n' y | some e => P (some e) y) {n : Nat} {x : Lf} (h0 : Inv n x) :
    Runs T (.loop c) x P := by
  have key : ∀ N n x, n < N → Inv n x → ∀ m B a w, Rel m B x a w → ∀ Q : Exit → Act → World → Prop, (∀ e y, P e y → ∀ a' w', Reach m B x.2.1.n w y a' w' → Q (out e) a' w') → Code.rounds T.P c Q N a w := by
    intro N
    induction N with
    | zero => intro n x hn; omega
    | succ N ih =>
      intro n x hn hI m B a w R Q hQ
      rw [rounds_succ]
      refine round n x hI m B a w R _ fun e y he a' w' hR => ?_
      match e, he with
      | none, he =>
        obtain ⟨n', hn', hI'⟩ := he
        obtain ⟨m', k1, k2, k3, k4⟩ := hR
        exact ih n' y (by omega) hI' m' B a' w' k2 Q fun e' y' he' a'' w'' hR' => hQ e' y' he' a'' w'' (Reach.trans k1 k3 k4 hR')
      | some none, he => exact hQ _ _ he a' w' hR
      | some (some id), he => exact hQ _ _ he a' w' hR
  intro m B a w R Q hQ
  exact wp_loop_rounds (n + 1) (key (n + 1) n x (by omega) h0 m B a w R Q hQ)

/-- a call out of its body -/
theorem calls_of_runs {T : Tab} {f : Nat} {F : Func} {c : Code} (hF : T.P.funcs[f]? = some F) (hc : F.body = some c) {vals : List Value} {v : Value} (hvals : (vals.all (lt 0)) = true) (hv : lt 0 v = true)
    (h : Runs T c (vals ++ List.replicate (F.ntmps - vals.length) undef, ⟨0, []⟩, []) fun e y => (e = none ∨ e = some none) ∧ resS T.P F y.1 y.2.1 = some v) (w : World) :
    Calls T.P f vals.toArray w fun e w' => e = .returned v ∧ Tidy w w' := by
  have E : Emb (fun b => (b, 0)) w.heap.size ⟨0, []⟩ w :=
    Emb.none w
  have hst : ∀ y ∈ vals, lt 0 y = true := List.all_eq_true.1 hvals
  have e0 : vals.map (mv fun b => (b, 0)) = vals := (List.map_congr_left fun y hy => mv_still (hst y hy)).trans (List.map_id' _)
  refine calls_of_wp hF hc ?_
  have R : Rel (fun b => (b, 0)) w.heap.size (vals ++ List.replicate (F.ntmps - vals.length) undef, ⟨0, []⟩, []) { tmps := vals.toArray ++ Array.replicate (F.ntmps - vals.toArray.size) undef, defers := [] } w := by
    refine ⟨?_, rfl, E, ?_⟩
    · simp [mv_undef, e0]
    · intro y hy
      rcases List.mem_append.1 hy with hy | hy
      · exact hst y hy
      · rw [List.eq_of_mem_replicate hy]; simp [undef, lt]
  refine h _ _ _ w R _ fun e y he a' w' hR => ?_
  obtain ⟨hex, hres⟩ := he
  obtain ⟨m', k1, k2, k3, k4⟩ := hR
  obtain ⟨r1, r2⟩ := resS_run k2.emb k2.wf hres
  rw [← k2.tmps, mv_still hv] at r1
  have post : a'.defers = [] ∧ ∃ v', (results F a'.tmps).run T.P w' = .ok v' w' ∧ (Ending.returned v' = .returned v ∧ Tidy w w') :=
    ⟨k2.dfr, _, r1, rfl, k3, fun k h1 h2 => k2.emb.ice k h1 h2⟩
  rcases hex with rfl | rfl <;> exact post

/-! ### the pieces of a piece of code -/
def cFst : Code → Code
  | .seq a _ => a
  | c => c
def cSnd : Code → Code
  | .seq _ b => b
  | c => c
def cIn : Code → Code
  | .block _ c => c
  | .loop c => c
  | .scope c => c
  | c => c
def cBody (F : Func) : Code := F.body.getD .skip

/-- pieces one behind the other, ahead of the rest -/
def seqs : List Code → Code → Code
  | [], X => X
  | c :: cs, X => .seq c (seqs cs X)
def evL (T : Tab) (n : Nat) : List Code → Lf → Lg → Option (Ex × Lf × Lg)
  | [], x, L => some (none, x, L)
  | c :: cs, x, L =>
    match evC T n false c x L with
    | some (none, x', L') => evL T n cs x' L'
    | _ => none
theorem evL_ok {T : Tab} (hT : TabOk T) {n : Nat} {X : Code} {P : Ex → Lf → Prop} : ∀ (cs : List Code) (x x' : Lf) (L L' : Lg) (e : Ex), evL T n cs x L = some (e, x', L') → L'.ok → L.ok ∧ e = none ∧ (Runs T X x' P → Runs T (seqs cs X) x P)
  | [], x, x', L, L', e, h, hL => by
    simp only [evL] at h
    cases h
    exact ⟨hL, rfl, id⟩
  | c :: cs, x, x', L, L', e, h, hL => by
    simp only [evL] at h
    split at h
    · rename_i x1 L1 h1
      obtain ⟨g1, g2, g3⟩ := evL_ok hT cs x1 x' L1 L' e h hL
      obtain ⟨g4, g5⟩ := (evC_ok hT n).1 _ _ _ _ _ _ h1 g1
      refine ⟨g4, g2, fun hX m B a w R Q hQ => wp_seq (g5 m B a w R _ fun a' w' hR => ?_)⟩
      obtain ⟨m', k1, k2, k3, k4⟩ := hR
      exact g3 hX m' B a' w' k2 Q fun e' y' he' a'' w'' hR' => hQ e' y' he' a'' w'' (Reach.trans k1 k3 k4 hR')
    · cases h

/-- What is to be reckoned of a piece of code: how it ends, the temporaries and the memory behind it, what was decided. -/
def Goes (r : Option (Ex × Lf × Lg)) (e : Ex) (t : List Value) (h : Hp) (cs : Log) : Prop :=
  r.map (fun r => r.1) = some e ∧ r.map (fun r => r.2.1.1) = some t ∧ r.map (fun r => r.2.1.2.1) = some h ∧ r.map (fun r => r.2.2.cs) = some cs ∧
    r.map (fun r => r.2.2.es.map Prod.fst) = r.map (fun r => r.2.2.es.map Prod.snd) ∧ r.map (fun r => r.2.2.bs.map Prod.fst) = r.map (fun r => r.2.2.bs.map Prod.snd)
theorem goes_some {r : Option (Ex × Lf × Lg)} {e : Ex} {t : List Value} {h : Hp} {cs : Log} (hG : Goes r e t h cs) (hcs : okLog cs) : ∃ s L, r = some (e, (t, h, s), L) ∧ L.ok := by
  obtain ⟨h1, h2, h3, h4, h5, h6⟩ := hG
  cases r with
  | none => cases h1
  | some r =>
    simp only [Option.map_some, Option.some.injEq] at h1 h2 h3 h4 h5 h6
    obtain ⟨e', ⟨t', h', s'⟩, L⟩ := r
    simp only at h1 h2 h3 h4 h5 h6
    subst h1 h2 h3
    exact ⟨s', L, rfl, by rw [h4]; exact hcs, all_eq _ h5, all_eq _ h6⟩
theorem goes_runs {T : Tab} (hT : TabOk T) {n : Nat} {c : Code} {t t' : List Value} {h h' : Hp} {s s0 : List Dec} {e : Ex} {cs : Log} (hG : Goes (evC T n false c (t, h, s) ⟨[], [], []⟩) e t' h' cs) (hcs : okLog cs) : Runs T c (t, h, s0) fun e' y => e' = e ∧ y.1 = t' ∧ y.2.1 = h' := by
  obtain ⟨s', L, hr, hL⟩ := goes_some hG hcs
  refine Runs.script ((Runs.ev hT hr hL).mono fun e2 y he => ?_)
  obtain ⟨rfl, rfl⟩ := he
  exact ⟨rfl, rfl, rfl⟩
theorem goes_list {T : Tab} (hT : TabOk T) {n : Nat} {l : List Code} {X : Code} {t t' : List Value} {h h' : Hp} {s s0 : List Dec} {e : Ex} {cs : Log} {P : Ex → Lf → Prop} (hG : Goes (evL T n l (t, h, s) ⟨[], [], []⟩) e t' h' cs) (hcs : okLog cs)
    (hX : Runs T X (t', h', []) P) : Runs T (seqs l X) (t, h, s0) P := by
  obtain ⟨s', L, hr, hL⟩ := goes_some hG hcs
  obtain ⟨_, _, h3⟩ := evL_ok (X := X) (P := P) hT l _ _ _ _ _ hr hL
  exact Runs.script (h3 (Runs.script hX))
end Go.KRun

/-
  A RUN THAT THE KERNEL RECKONS, X: pieces of code told by the first temporaries alone: the others are whatever they are.
-/
namespace Go.KRun
open Go.RowKit

/-- temporaries of which nothing is known but how many they are -/
def tl (n : Nat) (g : Nat → Value) : List Value := (List.range n).map g
theorem tl_of {J : List Value} {n : Nat} (h : J.length = n) : ∃ g, J = tl n g := by
  refine ⟨fun i => J.getD i undef, ?_⟩
  unfold tl
  refine List.ext_getElem (by simp [h]) fun i h1 h2 => ?_
  simp [h1]
/-- What is to be reckoned of a piece of code: how it ends, the first k temporaries and how many more there are, the memory, what was decided. -/
def GoesT (r : Option (Ex × Lf × Lg)) (k n : Nat) (e : Ex) (front : List Value) (h : Hp) (cs : Log) : Prop :=
  r.map (fun r => (r.1, r.2.1.1.take k, (r.2.1.1.drop k).length, r.2.1.2.1, r.2.2.cs)) = some (e, front, n, h, cs) ∧
    r.map (fun r => r.2.2.es.map Prod.fst) = r.map (fun r => r.2.2.es.map Prod.snd) ∧ r.map (fun r => r.2.2.bs.map Prod.fst) = r.map (fun r => r.2.2.bs.map Prod.snd)
/-- the same, where no order is drawn -/
def GoesE (r : Option (Ex × Lf × Lg)) (k n : Nat) (e : Ex) (front : List Value) (h : Hp) (cs : Log) : Prop :=
  r.map (fun r => (r.1, r.2.1.1.take k, (r.2.1.1.drop k).length, r.2.1.2.1, r.2.2.cs, r.2.2.es, r.2.2.bs)) = some (e, front, n, h, cs, [], [])
theorem GoesE.t {r : Option (Ex × Lf × Lg)} {k n : Nat} {e : Ex} {front : List Value} {h : Hp} {cs : Log} (hG : GoesE r k n e front h cs) : GoesT r k n e front h cs := by
  unfold GoesE at hG
  cases r with
  | none => cases hG
  | some r =>
    simp only [Option.map_some, Option.some.injEq, Prod.mk.injEq] at hG
    obtain ⟨h1, h2, h3, h4, h5, h6, h7⟩ := hG
    refine ⟨?_, ?_, ?_⟩
    · rw [Option.map_some, h1, h2, h3, h4, h5]
    · simp [h6]
    · simp [h7]
theorem goesT_some {r : Option (Ex × Lf × Lg)} {k n : Nat} {e : Ex} {front : List Value} {h : Hp} {cs : Log} (hG : GoesT r k n e front h cs) (hcs : okLog cs) : ∃ g s L, r = some (e, (front ++ tl n g, h, s), L) ∧ L.ok := by
  obtain ⟨h1, h5, h6⟩ := hG
  cases r with
  | none => cases h1
  | some r =>
    simp only [Option.map_some, Option.some.injEq, Prod.mk.injEq] at h1 h5 h6
    obtain ⟨e', ⟨t', h', s'⟩, L⟩ := r
    simp only at h1 h5 h6
    obtain ⟨h1, h2, h3, h4, h7⟩ := h1
    subst h1 h4
    obtain ⟨g, hg⟩ := tl_of h3
    refine ⟨g, s', L, ?_, by rw [h7]; exact hcs, all_eq _ h5, all_eq _ h6⟩
    rw [← h2, ← hg, List.take_append_drop]
theorem goesT_runs {T : Tab} (hT : TabOk T) {N : Nat} {c : Code} {t : List Value} {h h' : Hp} {s s0 : List Dec} {k n : Nat} {e : Ex} {front : List Value} {cs : Log} (hG : GoesT (evC T N false c (t, h, s) ⟨[], [], []⟩) k n e front h' cs) (hcs : okLog cs) :
    Runs T c (t, h, s0) fun e' y => e' = e ∧ (∃ g, y.1 = front ++ tl n g) ∧ y.2.1 = h' := by
  obtain ⟨g, s', L, hr, hL⟩ := goesT_some hG hcs
  refine Runs.script ((Runs.ev hT hr hL).mono fun e2 y he => ?_)
  obtain ⟨rfl, rfl⟩ := he
  exact ⟨rfl, ⟨g, rfl⟩, rfl⟩
theorem goesT_list {T : Tab} (hT : TabOk T) {N : Nat} {l : List Code} {X : Code} {t : List Value} {h h' : Hp} {s s0 : List Dec} {k n : Nat} {e : Ex} {front : List Value} {cs : Log} {P : Ex → Lf → Prop} (hG : GoesT (evL T N l (t, h, s) ⟨[], [], []⟩) k n e front h' cs) (hcs : okLog cs)
    (hX : ∀ g, Runs T X (front ++ tl n g, h', []) P) : Runs T (seqs l X) (t, h, s0) P := by
  obtain ⟨g, s', L, hr, hL⟩ := goesT_some hG hcs
  obtain ⟨_, _, h3⟩ := evL_ok (X := X) (P := P) hT l _ _ _ _ _ hr hL
  exact Runs.script (h3 (Runs.script (hX g)))
/-- a call out of its body, where its arguments lie in memory that is there: what it answers, and that memory behind it -/
theorem hcalls_of_runs {T : Tab} {f : Nat} {F : Func} {c : Code} (hF : T.P.funcs[f]? = some F) (hc : F.body = some c) {vals : List Value} {v : Value} {h h' : Hp} (hv : lt 0 v = true) (ht : h'.tight = true)
    (hr : Runs T c (vals ++ List.replicate (F.ntmps - vals.length) undef, h, []) fun e y => (e = none ∨ e = some none) ∧ resS T.P F y.1 y.2.1 = some v ∧ y.2.1.cut h.n = h') (m : Mp) (B : Nat) (w : World) (E : Emb m B h w) (hvals : ∀ v ∈ vals, lt h.n v = true) :
    Calls T.P f (vals.map (mv m)).toArray w fun e w' => ∃ m', e = .returned (mv m' v) ∧ Came m B h w v h' m' w' := by
  refine calls_of_wp hF hc ?_
  have R : Rel m B (vals ++ List.replicate (F.ntmps - vals.length) undef, h, []) { tmps := (vals.map (mv m)).toArray ++ Array.replicate (F.ntmps - (vals.map (mv m)).toArray.size) undef, defers := [] } w := by
    refine ⟨?_, rfl, E, ?_⟩
    · simp [mv_undef]
    · intro y hy
      rcases List.mem_append.1 hy with hy | hy
      · exact hvals y hy
      · rw [List.eq_of_mem_replicate hy]; simp [undef, lt]
  refine hr _ _ _ w R _ fun e y he a' w' hR => ?_
  obtain ⟨hex, hres, hcut⟩ := he
  obtain ⟨m', k1, k2, k3, k4⟩ := hR
  obtain ⟨r1, r2⟩ := resS_run k2.emb k2.wf hres
  rw [← k2.tmps, mv_still hv] at r1
  have k4' : h.n ≤ y.2.1.n := k4
  have C : Came m B h w v h' m w' := by
    subst hcut
    exact ⟨Agree.refl _ _, k2.emb.cut k1 k4' ht, k3, by simp [Hp.cut], lt_mono (Nat.zero_le _) hv⟩
  have post : a'.defers = [] ∧ ∃ v', (results F a'.tmps).run T.P w' = .ok v' w' ∧ ∃ m', Ending.returned v' = .returned (mv m' v) ∧ Came m B h w v h' m' w' :=
    ⟨k2.dfr, _, r1, m, by rw [mv_still hv], C⟩
  rcases hex with rfl | rfl <;> exact post
/-- a 'for': what stands ahead of it, and its rounds -/
theorem Runs.forLoop {T : Tab} {c : Code} {id : Nat} {x : Lf} {P : Lf → Prop} {R : Lf → Prop} (Inv : Nat → Lf → Prop)
    (round : ∀ n x, Inv n x → Runs T c x fun e y => match e with | none => ∃ n', n' < n ∧ Inv n' y | some none => R y | some (some id') => id' = id ∧ P y) {n : Nat} (h0 : Inv n x) :
    Runs T (.block id (.loop c)) x fun e y => match e with | none => P y | some none => R y | some (some _) => False := by
  refine Runs.block (P1 := fun e y => match e with | none => False | some none => R y | some (some id') => id' = id ∧ P y) ?_ (fun y he => he.elim) (fun y he => he) (fun y he => he.2) (fun id' y hid he => absurd he.1 hid)
  refine Runs.loop Inv (fun n x hI => (round n x hI).mono fun e y he => ?_) h0
  match e, he with
  | none, he => exact he
  | some none, he => exact he
  | some (some id'), he => exact he
end Go.KRun
