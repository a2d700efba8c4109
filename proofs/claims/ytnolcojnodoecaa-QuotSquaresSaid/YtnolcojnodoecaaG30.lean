/-
  A RUN THAT THE KERNEL RECKONS, XI: code taken piece by piece, where blocks that are no more reached are let go behind a round, and their numbers given anew.
-/
import Derived.Test.YtnolcojnodoecaaG21
import Derived.Test.YtnolcojnodoecaaG29
import Derived.Test.YtnolcojnodoecaaG25
namespace Go.KRun
open Go.RowKit

def RunsW (T : Tab) (c : Code) (x : Lf) (Post : Ex → Lf → Prop) : Prop :=
  ∀ m B a w, Rel m B x a w → ∀ Q : Exit → Act → World → Prop, (∀ e y, Post e y → ∀ m' a' w', Rel m' B y a' w' → Below B w w' → Q (out e) a' w') → c.wp T.P Q a w
theorem Runs.w {T : Tab} {c : Code} {x : Lf} {P : Ex → Lf → Prop} (h : Runs T c x P) : RunsW T c x P := fun m B a w R Q hQ => h m B a w R Q fun e y he a' w' hR => by
  obtain ⟨m', _, k2, k3, _⟩ := hR
  exact hQ e y he m' a' w' k2 k3
/-- the state behind it told otherwise -/
theorem RunsW.post {T : Tab} {c : Code} {x : Lf} {P P' : Ex → Lf → Prop} (h : RunsW T c x P) (hp : ∀ e y, P e y → ∃ y', P' e y' ∧ ∀ m B a w, Rel m B y a w → ∃ m', Rel m' B y' a w) : RunsW T c x P' :=
  fun m B a w R Q hQ => h m B a w R Q fun e y he m' a' w' hR hb => by
    obtain ⟨y', h1, h2⟩ := hp e y he
    obtain ⟨m2, h3⟩ := h2 m' B a' w' hR
    exact hQ e y' h1 m2 a' w' h3 hb
theorem RunsW.mono {T : Tab} {c : Code} {x : Lf} {P P' : Ex → Lf → Prop} (h : RunsW T c x P) (hp : ∀ e y, P e y → P' e y) : RunsW T c x P' := h.post fun e y he => ⟨y, hp e y he, fun m _ _ _ R => ⟨m, R⟩⟩
theorem RunsW.seq {T : Tab} {c1 c2 : Code} {x : Lf} {P1 P : Ex → Lf → Prop} (h1 : RunsW T c1 x P1) (h2 : ∀ y, P1 none y → RunsW T c2 y P) (h3 : ∀ e y, P1 (some e) y → P (some e) y) : RunsW T (.seq c1 c2) x P := by
  intro m B a w R Q hQ
  refine wp_seq (h1 m B a w R _ fun e y he m' a' w' hR hb => ?_)
  match e, he with
  | none, he => exact h2 y he m' B a' w' hR Q fun e' y' he' m'' a'' w'' hR' hb' => hQ e' y' he' m'' a'' w'' hR' (hb.trans hb')
  | some none, he => exact hQ _ _ (h3 none y he) m' a' w' hR hb
  | some (some id), he => exact hQ _ _ (h3 (some id) y he) m' a' w' hR hb
theorem RunsW.block {T : Tab} {c : Code} {id : Nat} {x : Lf} {P1 P : Ex → Lf → Prop} (h1 : RunsW T c x P1) (h2 : ∀ y, P1 none y → P none y) (h3 : ∀ y, P1 (some none) y → P (some none) y)
    (h4 : ∀ y, P1 (some (some id)) y → P none y) (h5 : ∀ id' y, id' ≠ id → P1 (some (some id')) y → P (some (some id')) y) : RunsW T (.block id c) x P := by
  intro m B a w R Q hQ
  refine wp_block (h1 m B a w R _ fun e y he m' a' w' hR hb => ?_)
  match e, he with
  | none, he => exact hQ _ _ (h2 y he) m' a' w' hR hb
  | some none, he => exact hQ _ _ (h3 y he) m' a' w' hR hb
  | some (some id'), he =>
    simp only [out, Exit.inBlock]
    by_cases hid : id' = id
    · subst hid
      rw [if_pos rfl]
      exact hQ _ _ (h4 y he) m' a' w' hR hb
    · rw [if_neg hid]
      exact hQ _ _ (h5 id' y hid he) m' a' w' hR hb
theorem RunsW.loop {T : Tab} {c : Code} {P : Ex → Lf → Prop} (Inv : Nat → Lf → Prop) (round : ∀ n x, Inv n x → RunsW T c x fun e y => match e with | none => ∃ n', n' < n ∧ Inv n' y | some e => P (some e) y) {n : Nat} {x : Lf} (h0 : Inv n x) :
    RunsW T (.loop c) x P := by
  have key : ∀ N n x, n < N → Inv n x → ∀ m B a w, Rel m B x a w → ∀ Q : Exit → Act → World → Prop, (∀ e y, P e y → ∀ m' a' w', Rel m' B y a' w' → Below B w w' → Q (out e) a' w') → Code.rounds T.P c Q N a w := by
    intro N
    induction N with
    | zero => intro n x hn; omega
    | succ N ih =>
      intro n x hn hI m B a w R Q hQ
      rw [rounds_succ]
      refine round n x hI m B a w R _ fun e y he m' a' w' hR hb => ?_
      match e, he with
      | none, he =>
        obtain ⟨n', hn', hI'⟩ := he
        exact ih n' y (by omega) hI' m' B a' w' hR Q fun e' y' he' m'' a'' w'' hR' hb' => hQ e' y' he' m'' a'' w'' hR' (hb.trans hb')
      | some none, he => exact hQ _ _ he m' a' w' hR hb
      | some (some id), he => exact hQ _ _ he m' a' w' hR hb
  intro m B a w R Q hQ
  exact wp_loop_rounds (n + 1) (key (n + 1) n x (by omega) h0 m B a w R Q hQ)
theorem calls_of_runsW {T : Tab} {f : Nat} {F : Func} {c : Code} (hF : T.P.funcs[f]? = some F) (hc : F.body = some c) {vals : List Value} {v : Value} (hvals : (vals.all (lt 0)) = true) (hv : lt 0 v = true)
    (h : RunsW T c (vals ++ List.replicate (F.ntmps - vals.length) undef, ⟨0, []⟩, []) fun e y => (e = none ∨ e = some none) ∧ resS T.P F y.1 y.2.1 = some v) (w : World) :
    Calls T.P f vals.toArray w fun e w' => e = .returned v ∧ Tidy w w' := by
  have E : Emb (fun b => (b, 0)) w.heap.size ⟨0, []⟩ w :=
    Emb.none w
  have hst : ∀ y ∈ vals, lt 0 y = true := List.all_eq_true.1 hvals
  have e0 : vals.map (mv fun b => (b, 0)) = vals := (List.map_congr_left fun y hy => mv_still (hst y hy)).trans (List.map_id' _)
  refine calls_of_wp hF hc ?_
  have R : Rel (fun b => (b, 0)) w.heap.size (vals ++ List.replicate (F.ntmps - vals.length) undef, ⟨0, []⟩, []) { tmps := vals.toArray ++ Array.replicate (F.ntmps - vals.toArray.size) undef, defers := [] } w := by
    refine ⟨?_, rfl, E, ?_⟩
    · simp [mv_undef, e0]
    · intro y hy
      rcases List.mem_append.1 hy with hy | hy
      · exact hst y hy
      · rw [List.eq_of_mem_replicate hy]; simp [undef, lt]
  refine h _ _ _ w R _ fun e y he m' a' w' k2 k3 => ?_
  obtain ⟨hex, hres⟩ := he
  obtain ⟨r1, r2⟩ := resS_run k2.emb k2.wf hres
  rw [← k2.tmps, mv_still hv] at r1
  have post : a'.defers = [] ∧ ∃ v', (results F a'.tmps).run T.P w' = .ok v' w' ∧ (Ending.returned v' = .returned v ∧ Tidy w w') :=
    ⟨k2.dfr, _, r1, rfl, k3, fun k h1 h2 => k2.emb.ice k h1 h2⟩
  rcases hex with rfl | rfl <;> exact post
theorem RunsW.script {T : Tab} {c : Code} {t : List Value} {h : Hp} {s s' : List Dec} {P : Ex → Lf → Prop} (hr : RunsW T c (t, h, s) P) : RunsW T c (t, h, s') P :=
  fun m B a w R Q hQ => hr m B a w ⟨R.tmps, R.dfr, R.emb, R.wf⟩ Q hQ
theorem goesT_listW {T : Tab} (hT : TabOk T) {N : Nat} {l : List Code} {X : Code} {t : List Value} {h h' : Hp} {s s0 : List Dec} {k n : Nat} {e : Ex} {front : List Value} {cs : Log} {P : Ex → Lf → Prop} (hG : GoesT (evL T N l (t, h, s) ⟨[], [], []⟩) k n e front h' cs) (hcs : okLog cs)
    (hX : ∀ g, RunsW T X (front ++ tl n g, h', []) P) : RunsW T (seqs l X) (t, h, s0) P := by
  obtain ⟨g, s', L, hr, hL⟩ := goesT_some hG hcs
  have key : ∀ (cs : List Code) (x x' : Lf) (L L' : Lg) (e : Ex), evL T N cs x L = some (e, x', L') → L'.ok → L.ok ∧ (RunsW T X x' P → RunsW T (seqs cs X) x P) := by
    intro cs
    induction cs with
    | nil =>
      intro x x' L L' e h hL
      simp only [evL] at h
      cases h
      exact ⟨hL, id⟩
    | cons c cs ih =>
      intro x x' L L' e h hL
      simp only [evL] at h
      split at h
      · rename_i x1 L1 h1
        obtain ⟨g1, g3⟩ := ih x1 x' L1 L' e h hL
        obtain ⟨g4, g5⟩ := (evC_ok hT N).1 _ _ _ _ _ _ h1 g1
        refine ⟨g4, fun hX m B a w R Q hQ => wp_seq (g5 m B a w R _ fun a' w' hR => ?_)⟩
        obtain ⟨m', _, k2, k3, _⟩ := hR
        exact g3 hX m' B a' w' k2 Q fun e' y' he' m'' a'' w'' hR' hb' => hQ e' y' he' m'' a'' w'' hR' (k3.trans hb')
      · cases h
  have r := (key l _ _ _ _ _ hr hL).2 (RunsW.script (hX g))
  exact RunsW.script r
/-- the newest block takes the place of the one below it, which is let go -/
theorem slide {m : Mp} {B : Nat} {t : List Value} {k : Nat} {x y : List Value × TypeId} {l : List (List Value × TypeId)} {s : List Dec} {a : Act} {w : World} (R : Rel m B (t, ⟨k + 2, x :: y :: l⟩, s) a w) (hc : (⟨k + 2, x :: y :: l⟩ : Hp).calm = true)
    (ht : ∀ v ∈ t, lt (k + 1) (rn (swp k (k + 1)) v) = true) : ∃ m', Rel m' B (t.map (rn (swp k (k + 1))), ⟨k + 1, x :: l⟩, s) a w := by
  obtain ⟨r1, _⟩ := swapLf_rel R (i := k) (j := k + 1) (by omega) (by show k + 1 < k + 2; omega) hc
  have e1 : (⟨k + 2, x :: y :: l⟩ : Hp).blk? k = some y := by
    unfold Hp.blk?
    rw [if_pos (blt_iff.2 (by show k < k + 2; omega))]
    show (x :: y :: l)[k + 2 - 1 - k]? = some y
    rw [show k + 2 - 1 - k = 1 from by omega]
    rfl
  have e2 : (⟨k + 2, x :: y :: l⟩ : Hp).blk? (k + 1) = some x := by
    unfold Hp.blk?
    rw [if_pos (blt_iff.2 (by show k + 1 < k + 2; omega))]
    show (x :: y :: l)[k + 2 - 1 - (k + 1)]? = some x
    rw [show k + 2 - 1 - (k + 1) = 0 from by omega]
    rfl
  have e3 : swapLf k (k + 1) (t, ⟨k + 2, x :: y :: l⟩, s) = (t.map (rn (swp k (k + 1))), ⟨k + 2, y :: x :: l⟩, s) := by
    unfold swapLf
    simp only [e1, e2]
    unfold Hp.put
    simp only
    rw [show k + 2 - 1 - k = 1 from by omega, show k + 2 - 1 - (k + 1) = 0 from by omega]
    rfl
  rw [e3] at r1
  have e4 : (⟨k + 2, y :: x :: l⟩ : Hp).cut (k + 1) = ⟨k + 1, x :: l⟩ := by
    unfold Hp.cut
    simp only
    rw [show k + 2 - (k + 1) = 1 from by omega]
    rfl
  have tg : ((⟨k + 2, y :: x :: l⟩ : Hp).cut (k + 1)).tight = true := by
    rw [e4]
    unfold Hp.tight Hp.calm at *
    simp only [List.all_eq_true] at *
    intro b hb v hv
    refine lt1_mono (Nat.zero_le _) (hc b ?_ v hv)
    rcases List.mem_cons.1 hb with rfl | hb
    · exact List.mem_cons_self
    · exact List.mem_cons_of_mem _ (List.mem_cons_of_mem _ hb)
  have E := Emb.cut (n := k + 1) r1.emb (Agree.refl _ _) (by show k + 1 ≤ k + 2; omega) tg
  simp only at E
  rw [e4] at E
  refine ⟨_, r1.tmps, r1.dfr, E, fun v hv => ?_⟩
  obtain ⟨u, hu, rfl⟩ := List.mem_map.1 hv
  exact ht u hu
end Go.KRun

/-
  wide.middle, as a call; the pieces of wide.Sqrt.
-/
namespace Go.Proofs.Ytnolcojnodoecaa
open Go.KRun Go.Wd
set_option maxRecDepth 100000

def nz2 (a b : W4) : Bool × Bool := (decide (a.ok ∧ b.ok ∧ b.val ≠ 0), true)
def gQR : Ans := fun vals s =>
  match vals with
  | [x, y] =>
    match w4 x, w4 y with
    | some a, some b => some (qrV (W4.of (a.val / b.val)) (W4.of (a.val % b.val)), s, [nz2 a b])
    | _, _ => none
  | _ => none
theorem gQR_ok : AnsOk 50 gQR := by
  intro vals s v s' lg h hl w
  unfold gQR at h
  split at h
  · split at h
    · rename_i a b ha hb
      cases h
      have h1 := hl _ (List.mem_singleton.2 rfl)
      simp only [nz2, decide_eq_true_eq] at h1
      rw [w4_spec ha, w4_spec hb]
      exact divmod_calls a b h1.1 h1.2.1 h1.2.2 w
    · cases h
  · cases h
def conMi : Con := alt 50 gQR (alt 86 (g2 (plain2 addV4)) (alt 78 (g1n (plain1n shrV4)) conN))
theorem conMi_ok : ConOk conMi := alt_ok Try.func50 rfl gQR_ok (alt_ok Try.func86 rfl (plain2_ok add_calls) (alt_ok Try.func78 rfl (plain1n_ok shr_calls) conN_ok))
def dq (x a : W4) : W4 := W4.of (a.val / x.val)
def smW (x a : W4) : W4 := W4.of (x.val + (dq x a).val)
def p2 (x y : W4) : Bool × Bool := (decide (x.ok ∧ y.ok), true)
theorem mid_fits (x a : W4) : Fits (reckon (tabOf Try.prog extY conMi true) 500 81 [vW x, vW a] []) (vW (shrW (smW x a) 1)) [lk (smW x a) 1, p2 x (dq x a), nz2 a x] := ⟨by kernel_rfl, by kernel_rfl, by kernel_rfl, by kernel_rfl⟩
def midI (x a : W4) : Int := (x.val + a.val / x.val) / 2
def midOk (x a : W4) : Prop := x.ok ∧ a.ok ∧ x.val ≠ 0 ∧ x.val + a.val / x.val < 115792089237316195423570985008687907853269984665640564039457584007913129639936
theorem mid_calls (x a : W4) (h : midOk x a) (w : World) : Calls Try.prog 81 #[vW x, vW a] w fun e w' => e = .returned (vW (W4.of (midI x a))) ∧ Tidy w w' := by
  obtain ⟨hx, ha, hz, hs⟩ := h
  have bx := W4.val_bd hx
  have ba := W4.val_bd ha
  have q0 : 0 ≤ a.val / x.val := Int.ediv_nonneg ba.1 bx.1
  have q9 : a.val / x.val ≤ a.val := Int.ediv_le_self _ ba.1
  have e1 : (dq x a).val = a.val / x.val := by unfold dq; rw [W4.val_of, Int.emod_eq_of_lt q0 (by omega)]
  have e2 : (smW x a).val = x.val + a.val / x.val := by unfold smW; rw [e1, W4.val_of, Int.emod_eq_of_lt (by omega) hs]
  have h := fits_calls (tabY_ok conMi_ok) (mid_fits x a) (okCons (lk_ok (W4.ok_of _) (by omega) (by omega)) (okCons (decide_eq_true ⟨hx, W4.ok_of _⟩) (okL1 (decide_eq_true ⟨ha, hx, hz⟩)))) (by rfl) (by rfl) w
  have e3 : shrW (smW x a) 1 = W4.of (midI x a) := by
    unfold shrW midI
    rw [if_neg (by omega), if_neg (by omega), e2]
    rfl
  rw [e3] at h
  exact h
def gMid : Ans := fun vals s =>
  match vals with
  | [x, y] =>
    match w4 x, w4 y with
    | some x, some a => some (vW (W4.of (midI x a)), s, [(decide (x.ok ∧ a.ok ∧ x.val ≠ 0 ∧ x.val + a.val / x.val < 115792089237316195423570985008687907853269984665640564039457584007913129639936), true)])
    | _, _ => none
  | _ => none
theorem gMid_ok : AnsOk 81 gMid := by
  intro vals s v s' lg h hl w
  unfold gMid at h
  split at h
  · split at h
    · rename_i a b ha hb
      cases h
      have h1 := hl _ (List.mem_singleton.2 rfl)
      simp only [decide_eq_true_eq] at h1
      rw [w4_spec ha, w4_spec hb]
      exact mid_calls a b h1 w
    · cases h
  · cases h
def conSq : Con := alt 81 gMid (alt 82 (g2 (plain2 cmpV4)) (alt 68 (g1 lenV4) (alt 51 (g1n (plain1n shlV4)) (alt 63 (g2 (plain2 mulV4)) (alt 83 (g2 (plain2 subV4)) conN)))))
theorem conSq_ok : ConOk conSq := alt_ok Try.func81 rfl gMid_ok (alt_ok Try.func82 rfl (plain2_ok cmp_calls) (alt_ok Try.func68 rfl (g1_ok wlen_calls) (alt_ok Try.func51 rfl (plain1n_ok shl_calls) (alt_ok Try.func63 rfl (plain2_ok mul_calls) (alt_ok Try.func83 rfl (plain2_ok sub_calls) conN_ok)))))
def mOkW (x a : W4) : Bool × Bool := (decide (x.ok ∧ a.ok ∧ x.val ≠ 0 ∧ x.val + a.val / x.val < 115792089237316195423570985008687907853269984665640564039457584007913129639936), true)
def sPreW (F : Func) : List Code := [cFst (cBody F), cFst (cSnd (cBody F)), cFst (cSnd (cSnd (cBody F)))]
def sLoopW (F : Func) : Code := cIn (cIn (cFst (cSnd (cSnd (cSnd (cBody F))))))
def sEndW (F : Func) : Code := cSnd (cSnd (cSnd (cSnd (cBody F))))
theorem sq_body : Try.f61.body = some (seqs (sPreW Try.f61) (.seq (.block 0 (.loop (sLoopW Try.f61))) (sEndW Try.f61))) := by kernel_rfl
/-- the temporaries of Sqrt: the pointer to 'next', what is known from ahead of the loop, and the round's own -/
def sTW (a : W4) (v5 : Value) (J K : List Value) : List Value := [vW a, t_ 0, t_ 1, t_ 2, t_ 3, v5, undef, undef, undef, undef] ++ (J ++ (K ++ List.replicate 14 undef))
def eW (x : W4) : List Value × TypeId := ([.int .u64 x.a, .int .u64 x.b, .int .u64 x.c, .int .u64 x.d], 40)
def z4 : W4 := ⟨0, 0, 0, 0⟩
def hA (a x : W4) : Hp := ⟨4, [eW x, eW z4, eW z4, eW a]⟩
def hBW (a x y : W4) : Hp := ⟨5, [eW y, eW x, eW z4, eW z4, eW a]⟩
def hC (a x y z : W4) : Hp := ⟨6, [eW z, eW y, eW x, eW z4, eW z4, eW a]⟩
def nW (x a : W4) : W4 := W4.of (midI x a)
def kGo (x a : W4) : List Value := [vW x, vW a, vW (nW x a), vW (nW x a), vW x, .int .i64 (cmpI (nW x a) x), .bool false, vW (nW x a)]
def kUp (x a : W4) (k : Value) : List Value := [vW x, vW a, vW (nW x a), vW (nW x a), vW x, .int .i64 (cmpI (nW x a) x), .bool true, k]
def cg (x a : W4) (d : Bool) : Bool × Bool := (decide (cmpI (nW x a) x ≥ 0), d)
theorem sq_pre (a : W4) : GoesT (evL (tabOf Try.prog extY conSq true) 500 (sPreW Try.f61) ([vW a] ++ List.replicate 42 undef, ⟨0, []⟩, [sam false]) ⟨[], [], []⟩) 43 0 none
    (sTW a undef [vW a, vW z4, .bool false, undef, undef, vW ⟨1, 0, 0, 0⟩, vW a, .int .i64 (lenI a), .int .i64 (IntKind.i64.wrap (lenI a + 1)), .int .i64 (IntKind.i64.wrap ((IntKind.i64.wrap (lenI a + 1)).tdiv 2)), vW (shlW ⟨1, 0, 0, 0⟩ (IntKind.i64.wrap ((IntKind.i64.wrap (lenI a + 1)).tdiv 2)))] (List.replicate 8 undef))
    (hA a (shlW ⟨1, 0, 0, 0⟩ (IntKind.i64.wrap ((IntKind.i64.wrap (lenI a + 1)).tdiv 2)))) [lk ⟨1, 0, 0, 0⟩ (IntKind.i64.wrap ((IntKind.i64.wrap (lenI a + 1)).tdiv 2)), okQ a, lk ⟨1, 0, 0, 0⟩ (IntKind.i64.wrap ((IntKind.i64.wrap (lenI a + 1)).tdiv 2)), okQ a, lk ⟨1, 0, 0, 0⟩ (IntKind.i64.wrap ((IntKind.i64.wrap (lenI a + 1)).tdiv 2)), lk ⟨1, 0, 0, 0⟩ (IntKind.i64.wrap ((IntKind.i64.wrap (lenI a + 1)).tdiv 2)), okQ a, (eqW a z4, false)] := ⟨by kernel_rfl, by kernel_rfl, by kernel_rfl⟩
theorem sqA_go (a x : W4) (v5 j10 j11 j12 j13 j14 j15 j16 j17 j18 j19 j20 k21 k22 k23 k24 k25 k26 k27 k28 : Value) : GoesE (evC (tabOf Try.prog extY conSq true) 300 false (sLoopW Try.f61) (sTW a v5 [j10, j11, j12, j13, j14, j15, j16, j17, j18, j19, j20] [k21, k22, k23, k24, k25, k26, k27, k28], hA a x, [cmp false]) ⟨[], [], []⟩) 43 0 none
    (sTW a (t_ 4) [j10, j11, j12, j13, j14, j15, j16, j17, j18, j19, j20] (kGo x a)) (hBW a (nW x a) (nW x a)) [cg x a false, p2 (nW x a) x, mOkW x a] := by unfold GoesE; kernel_rfl
theorem sqA_up (a x : W4) (v5 j10 j11 j12 j13 j14 j15 j16 j17 j18 j19 j20 k21 k22 k23 k24 k25 k26 k27 k28 : Value) : GoesE (evC (tabOf Try.prog extY conSq true) 300 false (sLoopW Try.f61) (sTW a v5 [j10, j11, j12, j13, j14, j15, j16, j17, j18, j19, j20] [k21, k22, k23, k24, k25, k26, k27, k28], hA a x, [cmp true]) ⟨[], [], []⟩) 43 0 (some (some 0))
    (sTW a (t_ 4) [j10, j11, j12, j13, j14, j15, j16, j17, j18, j19, j20] (kUp x a k28)) (hBW a x (nW x a)) [cg x a true, p2 (nW x a) x, mOkW x a] := by unfold GoesE; kernel_rfl
theorem sqB_go (a x : W4) (v5 j10 j11 j12 j13 j14 j15 j16 j17 j18 j19 j20 k21 k22 k23 k24 k25 k26 k27 k28 : Value) (y : W4) : GoesE (evC (tabOf Try.prog extY conSq true) 300 false (sLoopW Try.f61) (sTW a v5 [j10, j11, j12, j13, j14, j15, j16, j17, j18, j19, j20] [k21, k22, k23, k24, k25, k26, k27, k28], hBW a x y, [cmp false]) ⟨[], [], []⟩) 43 0 none
    (sTW a (t_ 5) [j10, j11, j12, j13, j14, j15, j16, j17, j18, j19, j20] (kGo x a)) (hC a (nW x a) y (nW x a)) [cg x a false, p2 (nW x a) x, mOkW x a] := by unfold GoesE; kernel_rfl
theorem sqB_up (a x : W4) (v5 j10 j11 j12 j13 j14 j15 j16 j17 j18 j19 j20 k21 k22 k23 k24 k25 k26 k27 k28 : Value) (y : W4) : GoesE (evC (tabOf Try.prog extY conSq true) 300 false (sLoopW Try.f61) (sTW a v5 [j10, j11, j12, j13, j14, j15, j16, j17, j18, j19, j20] [k21, k22, k23, k24, k25, k26, k27, k28], hBW a x y, [cmp true]) ⟨[], [], []⟩) 43 0 (some (some 0))
    (sTW a (t_ 5) [j10, j11, j12, j13, j14, j15, j16, j17, j18, j19, j20] (kUp x a k28)) (hC a x y (nW x a)) [cg x a true, p2 (nW x a) x, mOkW x a] := by unfold GoesE; kernel_rfl
theorem sq_end (a x : W4) (v5 j10 j11 j12 j13 j14 j15 j16 j17 j18 j19 j20 k21 k22 k23 k24 k25 k26 k27 k28 : Value) (y : W4) : GoesT (evC (tabOf Try.prog extY conSq true) 500 false (sEndW Try.f61) (sTW a v5 [j10, j11, j12, j13, j14, j15, j16, j17, j18, j19, j20] [k21, k22, k23, k24, k25, k26, k27, k28], hBW a x y, []) ⟨[], [], []⟩) 4 39 (some none)
    [vW a, t_ 0, t_ 1, t_ 2] ⟨8, [eW (W4.of (a.val - (W4.of (x.val * x.val)).val)), eW (W4.of (x.val * x.val / 115792089237316195423570985008687907853269984665640564039457584007913129639936)), eW (W4.of (x.val * x.val)), eW y, eW x, eW (W4.of (a.val - (W4.of (x.val * x.val)).val)), eW x, eW a]⟩
    [p2 a (W4.of (x.val * x.val)), p2 x x] := ⟨by kernel_rfl, by kernel_rfl, by kernel_rfl⟩
theorem sq_zero (a : W4) : Fits (reckon (tabOf Try.prog extY conSq true) 500 61 [vW a] [sam true]) (.tuple #[vW z4, vW z4]) [(eqW a z4, true)] := ⟨by kernel_rfl, by kernel_rfl, by kernel_rfl, by kernel_rfl⟩
end Go.Proofs.Ytnolcojnodoecaa
