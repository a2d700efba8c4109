/-
  narrow.To and narrow.From, and what the laws of patterns of 32 bits call besides, as calls in every world.
-/
import Derived.Test.YteglhjkpcljpmaaG18
import Derived.Test.YteglhjkpcljpmaaG03
namespace Go.Proofs.Yteglhjkpcljpmaa
open Go.KRun Go.Wd Go.Pt Go.Rn
set_option maxRecDepth 100000

theorem nt_l (p m : Int) : Fits (reckon (tabOf Try.prog extY conND true) 300 7 [.int .u64 p, .int .i64 m] [cmp true]) (roN 2143289344 1) [(cl p == 5, true), lU p] := ⟨by kernel_rfl, by kernel_rfl, by kernel_rfl, by kernel_rfl⟩
theorem nt_q (p m : Int) : Fits (reckon (tabOf Try.prog extY conND true) 300 7 [.int .u64 p, .int .i64 m] [cmp false, cmp true]) (roN 2143289344 0) [(cl p == 4, true), (cl p == 5, false), lU p] := ⟨by kernel_rfl, by kernel_rfl, by kernel_rfl, by kernel_rfl⟩
theorem nt_i (p m : Int) : Fits (reckon (tabOf Try.prog extY conND true) 300 7 [.int .u64 p, .int .i64 m] [cmp false, cmp false, cmp true]) (roN (s3 (sgn p) 2139095040) 0) [(decide (U p ∧ (0 : Int) ≤ 2139095040 ∧ (2139095040 : Int) < 2147483648), true), (cl p == 3, true), (cl p == 4, false), (cl p == 5, false), lU p] := ⟨by kernel_rfl, by kernel_rfl, by kernel_rfl, by kernel_rfl⟩
theorem nt_f (p m : Int) : Fits (reckon (tabOf Try.prog extY conND true) 300 7 [.int .u64 p, .int .i64 m] [cmp false, cmp false, cmp false, cmp true]) (roN (s3 (sgn p) (rnPN m (sgn p) (wSg p).nat (xp p))) (rnFN m (sgn p) (wSg p).nat (xp p))) [(decide (U p ∧ 0 ≤ rnPN m (sgn p) (wSg p).nat (xp p) ∧ rnPN m (sgn p) (wSg p).nat (xp p) < 2147483648), true), (okRN (wSg p) (xp p), true), lU p, (decide (cl p ≤ 2), true), lU p, (cl p == 3, false), (cl p == 4, false), (cl p == 5, false), lU p] := ⟨by kernel_rfl, by kernel_rfl, by kernel_rfl, by kernel_rfl⟩
theorem nf_q (q : Int) : Fits (reckon (tabOf Try.prog extY conND true) 300 10 [.int .u32 q] [cmp true]) (rdT 9221120237041090560 0) [(decide ((hNot q 2147483648) ≥ 2143289344), true)] := ⟨by kernel_rfl, by kernel_rfl, by kernel_rfl, by kernel_rfl⟩
theorem nf_l (q : Int) : Fits (reckon (tabOf Try.prog extY conND true) 300 10 [.int .u32 q] [cmp false, cmp true]) (rdT 9221120237041090560 1) [(decide ((hNot q 2147483648) > 2139095040), true), (decide ((hNot q 2147483648) ≥ 2143289344), false)] := ⟨by kernel_rfl, by kernel_rfl, by kernel_rfl, by kernel_rfl⟩
theorem nf_i (q : Int) : Fits (reckon (tabOf Try.prog extY conND true) 300 10 [.int .u32 q] [cmp false, cmp false, cmp true]) (rdT (sS (sgn (IntKind.u64.wrap (IntKind.u64.wrap q * 2 ^ min (Int.toNat 32) 64))) (mag 9218868437227405312)) 0) [(true, true), (decide (U 9218868437227405312 ∧ U (IntKind.u64.wrap (IntKind.u64.wrap q * 2 ^ min (Int.toNat 32) 64))), true), (decide ((32 : Int) < 0), false), ((hNot q 2147483648) == 2139095040, true), (decide ((hNot q 2147483648) > 2139095040), false), (decide ((hNot q 2147483648) ≥ 2143289344), false)] := ⟨by kernel_rfl, by kernel_rfl, by kernel_rfl, by kernel_rfl⟩
theorem nf_f (q : Int) : Fits (reckon (tabOf Try.prog extY conND true) 300 10 [.int .u32 q] [cmp false, cmp false, cmp false]) (rdT (sS (sgn (IntKind.u64.wrap (IntKind.u64.wrap q * 2 ^ min (Int.toNat 32) 64))) (mag (sS false (rnP 0 false (tw (⟨sg3 (hNot q 2147483648), 0, 0, 0⟩ : W4) false) (clp (xp3 (hNot q 2147483648)) - 1))))) (rnF 0 false (tw (⟨sg3 (hNot q 2147483648), 0, 0, 0⟩ : W4) false) (clp (xp3 (hNot q 2147483648)) - 1))) [(true, true), (decide (U (sS false (rnP 0 false (tw (⟨sg3 (hNot q 2147483648), 0, 0, 0⟩ : W4) false) (clp (xp3 (hNot q 2147483648)) - 1))) ∧ U (IntKind.u64.wrap (IntKind.u64.wrap q * 2 ^ min (Int.toNat 32) 64))), true), (decide ((32 : Int) < 0), false), (decide (⟨sg3 (hNot q 2147483648), 0, 0, 0⟩ : W4).ok, true), (decide (0 ≤ (hNot q 2147483648) ∧ (hNot q 2147483648) < 2147483648), true), ((hNot q 2147483648) == 2139095040, false), (decide ((hNot q 2147483648) > 2139095040), false), (decide ((hNot q 2147483648) ≥ 2143289344), false)] := ⟨by kernel_rfl, by kernel_rfl, by kernel_rfl, by kernel_rfl⟩
theorem nt_calls (p m : Int) (hp : U p) (w : World) : Calls Try.prog 7 #[.int .u64 p, .int .i64 m] w fun r w' => r = .returned (roN (naP m p) (naF m p)) ∧ Tidy w w' := by
  have T := tabY_ok conND_ok
  have hv : ([.int .u64 p, .int .i64 m].all (lt 0)) = true := rfl
  have kp : decide (U p) = true := decide_eq_true hp
  have ba := cl_bd p
  unfold naP naF
  by_cases h3 : 3 < cl p
  · rw [if_pos h3, if_pos h3]
    by_cases h5 : cl p = 5
    · rw [if_pos h5]
      exact fits_calls T (nt_l p m) (okCons (beq_t (by omega)) (okL1 kp)) hv (by rfl) w
    · rw [if_neg h5]
      exact fits_calls T (nt_q p m) (okCons (beq_t (by omega)) (okCons (beq_f (by omega)) (okL1 kp))) hv (by rfl) w
  rw [if_neg h3, if_neg h3]
  by_cases c3 : cl p = 3
  · rw [if_pos c3, if_pos c3]
    exact fits_calls T (nt_i p m) (okCons (decide_eq_true ⟨hp, by omega, by omega⟩) (okCons (beq_t (by omega)) (okCons (beq_f (by omega)) (okCons (beq_f (by omega)) (okL1 kp))))) hv (by rfl) w
  rw [if_neg c3, if_neg c3]
  have sb := sg_lt p
  have xb := xp_bd p
  have rb := rnP_bdN m (sgn p) (wSg p).nat (xp p)
  have ko : okRN (wSg p) (xp p) = true := by
    refine decide_eq_true ⟨wSg_ok p, by rw [wSg_nat]; omega, ?_, xb.1, xb.2⟩
    rw [wSg_nat]
    have hx := fin_ex (p := p) (by omega)
    by_cases h0 : ex p = 0
    · right
      unfold xp
      simp [h0]
    · left
      have hs : sg p = fr p + 4503599627370496 := by unfold sg; simp [h0, hx]
      have := fr_lt p
      omega
  rw [← wSg_nat]
  exact fits_calls T (nt_f p m) (okCons (decide_eq_true ⟨hp, rb.1, by omega⟩) (okCons ko (okCons kp (okCons (decide_eq_true (by omega)) (okCons kp (okCons (beq_f (by omega)) (okCons (beq_f (by omega)) (okCons (beq_f (by omega)) (okL1 kp))))))))) hv (by rfl) w
theorem nf_calls (q : Int) (hq : U3 q) (w : World) : Calls Try.prog 10 #[.int .u32 q] w fun r w' => r = .returned (rdT (nfP q) (nfF q)) ∧ Tidy w w' := by
  have T := tabY_ok conND_ok
  have hv : ([.int .u32 q].all (lt 0)) = true := rfl
  have eS := hNot_sign hq
  have q0 := hq.1
  have q1 := hq.2
  have mb : 0 ≤ mag3 q ∧ mag3 q < 2147483648 := by unfold mag3; omega
  have e32 : ((2 : Int) ^ min (Int.toNat 32) 64) = 4294967296 := by rfl
  have eX : (IntKind.u64.wrap (IntKind.u64.wrap q * 2 ^ min (Int.toNat 32) 64)) = q * 4294967296 := by rw [e32, wrapU, wrapU]; omega
  obtain ⟨kX0, sX⟩ := sign_up hq
  have kX : U (IntKind.u64.wrap (IntKind.u64.wrap q * 2 ^ min (Int.toNat 32) 64)) := by rw [eX]; exact kX0
  have hg : sgn (IntKind.u64.wrap (IntKind.u64.wrap q * 2 ^ min (Int.toNat 32) 64)) = sgn3 q := by rw [eX]; exact sX
  unfold nfP nfF
  by_cases h1 : 2143289344 ≤ mag3 q
  · rw [if_pos (show 2139095040 < mag3 q by omega), if_neg (by omega)]
    exact fits_calls T (nf_q q) (okL1 (decide_eq_true (by omega))) hv (by rfl) w
  by_cases h2 : 2139095040 < mag3 q
  · rw [if_pos h2, if_pos ⟨h2, by omega⟩]
    exact fits_calls T (nf_l q) (okCons (decide_eq_true (by omega)) (okL1 (decide_eq_false (by omega)))) hv (by rfl) w
  rw [if_neg h2, if_neg (show ¬ (2139095040 < mag3 q ∧ mag3 q < 2143289344) from fun h => h2 h.1)]
  by_cases h3 : mag3 q = 2139095040
  · rw [if_pos h3]
    have hf := nf_i q
    rw [hg] at hf
    have e : sS (sgn3 q) (mag 9218868437227405312) = if sgn3 q = true then 18442240474082181120 else 9218868437227405312 := by
      unfold sS
      split <;> rfl
    rw [e] at hf
    exact fits_calls T hf (okCons rfl (okCons (decide_eq_true ⟨⟨by omega, by omega⟩, kX⟩) (okCons (by decide) (okCons (beq_t (by omega)) (okCons (decide_eq_false (by omega)) (okL1 (decide_eq_false (by omega)))))))) hv (by rfl) w
  rw [if_neg h3]
  have hx : ex3 q ≠ 255 := ex3_fin.2 (by omega)
  obtain ⟨p1, p2⟩ := parts3 q
  have sb := sg3_bd q
  obtain ⟨ok0, on⟩ := w1_nat (x := sg3 q) sb.1 (by omega)
  have hr := rd_w9 0 false ok0 (C := xp3 q) (D := xp3 q) (.inl rfl)
  rw [on] at hr
  obtain ⟨f0, _, r0, r1, _⟩ := fu_num hx 0 false
  rw [f0] at hr
  unfold rdV rdT at hr
  have hr2 : sS false (rnP 0 false (tw (⟨sg3 q, 0, 0, 0⟩ : W4) false) (clp (xp3 q) - 1)) = sS false (rnP 0 false (sg3 q).toNat (xp3 q)) ∧ rnF 0 false (tw (⟨sg3 q, 0, 0, 0⟩ : W4) false) (clp (xp3 q) - 1) = 0 := by
    simpa using hr
  obtain ⟨m1, _, m3, _⟩ := sS_mag (n := false) r0 (show rnP 0 false (sg3 q).toNat (xp3 q) < 9223372036854775808 by omega)
  have hf := nf_f q
  rw [hg] at hf
  rw [eS] at hf
  rw [p1, p2, hr2.2, hr2.1, m1] at hf
  have e : sS (sgn3 q) (rnP 0 false (sg3 q).toNat (xp3 q)) = if sgn3 q = true then rnP 0 false (sg3 q).toNat (xp3 q) + 9223372036854775808 else rnP 0 false (sg3 q).toNat (xp3 q) := by
    unfold sS
    split <;> omega
  rw [e] at hf
  have kU := m3
  have ok1 := ok0
  exact fits_calls T hf (okCons rfl (okCons (decide_eq_true ⟨kU, kX⟩) (okCons (by decide) (okCons (decide_eq_true ok1) (okCons (decide_eq_true ⟨by omega, by omega⟩) (okCons (beq_f (by omega)) (okCons (decide_eq_false (by omega)) (okL1 (decide_eq_false (by omega)))))))))) hv (by rfl) w
def gNT : Ans := fun vals s =>
  match vals with
  | [.int .u64 p, .int .i64 m] => some (roN (naP m p) (naF m p), s, [(decide (U p), true)])
  | _ => none
theorem gNT_ok : AnsOk 7 gNT := by
  intro vals s v s' lg h hl w
  unfold gNT at h
  split at h
  · cases h
    exact nt_calls _ _ (of_decide_eq_true (hl _ (List.mem_singleton.2 rfl))) w
  · cases h
def gNF : Ans := fun vals s =>
  match vals with
  | [.int .u32 q] => some (rdT (nfP q) (nfF q), s, [(decide (U3 q), true)])
  | _ => none
theorem gNF_ok : AnsOk 10 gNF := by
  intro vals s v s' lg h hl w
  unfold gNF at h
  split at h
  · cases h
    exact nf_calls _ (of_decide_eq_true (hl _ (List.mem_singleton.2 rfl))) w
  · cases h
def conNE : Con := alt 7 gNT (alt 10 gNF conN)
theorem conNE_ok : ConOk conNE := alt_ok Try.func7 rfl gNT_ok (alt_ok Try.func10 rfl gNF_ok conN_ok)
theorem sure12 : Fits (reckon (tabOf Try.prog extY conNE true) 300 9 [] [cmp true, cmp true, cmp true, cmp true]) (.bool true) [(nfF 1065353216 == 0, true), (nfP 1065353216 == 4607182418800017408, true), (naF 0 4599676419421066581 == 16, true), (naP 0 4599676419421066581 == 1051372203, true), (decide (U3 1065353216), true), (decide (U 4599676419421066581), true)] := ⟨by kernel_rfl, by kernel_rfl, by kernel_rfl, by kernel_rfl⟩
def gSure12 : Ans := fun vals s => match vals with | [] => some (.bool true, s, []) | _ => none
theorem gSure12_ok : AnsOk 9 gSure12 := by
  intro vals s v s' lg h hl w
  unfold gSure12 at h
  split at h
  · cases h
    exact fits_calls (tabY_ok conNE_ok) sure12 (okCons (by decide) (okCons (by decide) (okCons (by decide) (okCons (by decide) (okCons (by decide) (okL1 (by decide))))))) (by rfl) (by rfl) w
  · cases h
def conNF : Con := alt 9 gSure12 conNE
theorem conNF_ok : ConOk conNF := alt_ok Try.func9 rfl gSure12_ok conNE_ok
end Go.Proofs.Yteglhjkpcljpmaa

/-
  A RUN THAT THE KERNEL RECKONS, IX: code taken piece by piece, where a loop goes round as often as a letter says: what a piece comes to from a state of the reckoner's, in every world ('Runs'), and the rules: a piece that is reckoned, one behind the other, a block, a loop with an invariant; and a call out of its body.
-/
namespace Go.KRun
open Go.RowKit

/-- From state x the code c ends, in one of the ways that 'Post' tells. -/
def Runs (T : Tab) (c : Code) (x : Lf) (Post : Ex → Lf → Prop) : Prop :=
  ∀ m B a w, Rel m B x a w → ∀ Q : Exit → Act → World → Prop, (∀ e y, Post e y → ∀ a' w', Reach m B x.2.1.n w y a' w' → Q (out e) a' w') → c.wp T.P Q a w

theorem Runs.mono {T : Tab} {c : Code} {x : Lf} {P P' : Ex → Lf → Prop} (h : Runs T c x P) (hp : ∀ e y, P e y → P' e y) : Runs T c x P' :=
  fun m B a w R Q hQ => h m B a w R Q fun e y he => hQ e y (hp e y he)

/-- the decisions that are told ahead are no part of the state -/
theorem Runs.script {T : Tab} {c : Code} {t : List Value} {h : Hp} {s s' : List Dec} {P : Ex → Lf → Prop} (hr : Runs T c (t, h, s) P) : Runs T c (t, h, s') P :=
  fun m B a w R Q hQ => hr m B a w ⟨R.tmps, R.dfr, R.emb, R.wf⟩ Q hQ

theorem Runs.ev {T : Tab} (hT : TabOk T) {n : Nat} {c : Code} {x x' : Lf} {e : Ex} {L : Lg} (h : evC T n false c x ⟨[], [], []⟩ = some (e, x', L)) (hL : L.ok) : Runs T c x fun e' y => e' = e ∧ y = x' :=
  fun m B a w R Q hQ => ((evC_ok hT n).1 c x _ e x' L h hL).2 m B a w R Q fun a' w' hR => hQ e x' ⟨rfl, rfl⟩ a' w' hR

theorem Runs.seq {T : Tab} {c1 c2 : Code} {x : Lf} {P1 P : Ex → Lf → Prop} (h1 : Runs T c1 x P1) (h2 : ∀ y, P1 none y → Runs T c2 y P) (h3 : ∀ e y, P1 (some e) y → P (some e) y) : Runs T (.seq c1 c2) x P := by
  intro m B a w R Q hQ
  refine wp_seq (h1 m B a w R _ fun e y he a' w' hR => ?_)
  match e, he with
  | none, he =>
    obtain ⟨m', k1, k2, k3, k4⟩ := hR
    exact h2 y he m' B a' w' k2 Q fun e' y' he' a'' w'' hR' => hQ e' y' he' a'' w'' (Reach.trans k1 k3 k4 hR')
  | some none, he => exact hQ _ _ (h3 none y he) a' w' hR
  | some (some id), he => exact hQ _ _ (h3 (some id) y he) a' w' hR

theorem Runs.block {T : Tab} {c : Code} {id : Nat} {x : Lf} {P1 P : Ex → Lf → Prop} (h1 : Runs T c x P1) (h2 : ∀ y, P1 none y → P none y) (h3 : ∀ y, P1 (some none) y → P (some none) y)
    (h4 : ∀ y, P1 (some (some id)) y → P none y) (h5 : ∀ id' y, id' ≠ id → P1 (some (some id')) y → P (some (some id')) y) : Runs T (.block id c) x P := by
  intro m B a w R Q hQ
  refine wp_block (h1 m B a w R _ fun e y he a' w' hR => ?_)
  match e, he with
  | none, he => exact hQ _ _ (h2 y he) a' w' hR
  | some none, he => exact hQ _ _ (h3 y he) a' w' hR
  | some (some id'), he =>
    simp only [out, Exit.inBlock]
    by_cases hid : id' = id
    · subst hid
      rw [if_pos rfl]
      exact hQ _ _ (h4 y he) a' w' hR
    · rw [if_neg hid]
      exact hQ _ _ (h5 id' y hid he) a' w' hR

/-- a loop: 'Inv n x': at its head in state x, at most n rounds are left -/
theorem Runs.loop {T : Tab} {c : Code} {P : Ex → Lf → Prop} (Inv : Nat → Lf → Prop) (round : ∀ n x, Inv n x → Runs T c x fun e y => match e with | none => ∃ n', n' < n ∧ Inv n' y | some e => P (some e) y) {n : Nat} {x : Lf} (h0 : Inv n x) :
    Runs T (.loop c) x P := by
  have key : ∀ N n x, n < N → Inv n x → ∀ m B a w, Rel m B x a w → ∀ Q : Exit → Act → World → Prop, (∀ e y, P e y → ∀ a' w', Reach m B x.2.1.n w y a' w' → Q (out e) a' w') → Code.rounds T.P c Q N a w := by
    intro N
    induction N with
    | zero => intro n x hn; omega
    | succ N ih =>
      intro n x hn hI m B a w R Q hQ
      rw [rounds_succ]
      refine round n x hI m B a w R _ fun e y he a' w' hR => ?_
      match e, he with
      | none, he =>
        obtain ⟨n', hn', hI'⟩ := he
        obtain ⟨m', k1, k2, k3, k4⟩ := hR
        exact ih n' y (by omega) hI' m' B a' w' k2 Q fun e' y' he' a'' w'' hR' => hQ e' y' he' a'' w'' (Reach.trans k1 k3 k4 hR')
      | some none, he => exact hQ _ _ he a' w' hR
      | some (some id), he => exact hQ _ _ he a' w' hR
  intro m B a w R Q hQ
  exact wp_loop_rounds (n + 1) (key (n + 1) n x (by omega) h0 m B a w R Q hQ)

/-- a call out of its body -/
theorem calls_of_runs {T : Tab} {f : Nat} {F : Func} {c : Code} (hF : T.P.funcs[f]? = some F) (hc : F.body = some c) {vals : List Value} {v : Value} (hvals : (vals.all (lt 0)) = true) (hv : lt 0 v = true)
    (h : Runs T c (vals ++ List.replicate (F.ntmps - vals.length) undef, ⟨0, []⟩, []) fun e y => (e = none ∨ e = some none) ∧ resS T.P F y.1 y.2.1 = some v) (w : World) :
    Calls T.P f vals.toArray w fun e w' => e = .returned v ∧ Tidy w w' := by
  have E : Emb (fun b => (b, 0)) w.heap.size ⟨0, []⟩ w :=
    Emb.none w
  have hst : ∀ y ∈ vals, lt 0 y = true := List.all_eq_true.1 hvals
  have e0 : vals.map (mv fun b => (b, 0)) = vals := (List.map_congr_left fun y hy => mv_still (hst y hy)).trans (List.map_id' _)
  refine calls_of_wp hF hc ?_
  have R : Rel (fun b => (b, 0)) w.heap.size (vals ++ List.replicate (F.ntmps - vals.length) undef, ⟨0, []⟩, []) { tmps := vals.toArray ++ Array.replicate (F.ntmps - vals.toArray.size) undef, defers := [] } w := by
    refine ⟨?_, rfl, E, ?_⟩
    · simp [mv_undef, e0]
    · intro y hy
      rcases List.mem_append.1 hy with hy | hy
      · exact hst y hy
      · rw [List.eq_of_mem_replicate hy]; simp [undef, lt]
  refine h _ _ _ w R _ fun e y he a' w' hR => ?_
  obtain ⟨hex, hres⟩ := he
  obtain ⟨m', k1, k2, k3, k4⟩ := hR
  obtain ⟨r1, r2⟩ := resS_run k2.emb k2.wf hres
  rw [← k2.tmps, mv_still hv] at r1
  have post : a'.defers = [] ∧ ∃ v', (results F a'.tmps).run T.P w' = .ok v' w' ∧ (Ending.returned v' = .returned v ∧ Tidy w w') :=
    ⟨k2.dfr, _, r1, rfl, k3, fun k h1 h2 => k2.emb.ice k h1 h2⟩
  rcases hex with rfl | rfl <;> exact post

/-! ### the pieces of a piece of code -/
def cFst : Code → Code
  | .seq a _ => a
  | c => c
def cSnd : Code → Code
  | .seq _ b => b
  | c => c
def cIn : Code → Code
  | .block _ c => c
  | .loop c => c
  | .scope c => c
  | c => c
def cBody (F : Func) : Code := F.body.getD .skip

/-- pieces one behind the other, ahead of the rest -/
def seqs : List Code → Code → Code
  | [], X => X
  | c :: cs, X => .seq c (seqs cs X)
def evL (T : Tab) (n : Nat) : List Code → Lf → Lg → Option (Ex × Lf × Lg)
  | [], x, L => some (none, x, L)
  | c :: cs, x, L =>
    match evC T n false c x L with
    | some (none, x', L') => evL T n cs x' L'
    | _ => none
theorem evL_ok {T : Tab} (hT : TabOk T) {n : Nat} {X : Code} {P : Ex → Lf → Prop} : ∀ (cs : List Code) (x x' : Lf) (L L' : Lg) (e : Ex), evL T n cs x L = some (e, x', L') → L'.ok → L.ok ∧ e = none ∧ (Runs T X x' P → Runs T (seqs cs X) x P)
  | [], x, x', L, L', e, h, hL => by
    simp only [evL] at h
    cases h
    exact ⟨hL, rfl, id⟩
  | c :: cs, x, x', L, L', e, h, hL => by
    simp only [evL] at h
    split at h
    · rename_i x1 L1 h1
      obtain ⟨g1, g2, g3⟩ := evL_ok hT cs x1 x' L1 L' e h hL
      obtain ⟨g4, g5⟩ := (evC_ok hT n).1 _ _ _ _ _ _ h1 g1
      refine ⟨g4, g2, fun hX m B a w R Q hQ => wp_seq (g5 m B a w R _ fun a' w' hR => ?_)⟩
      obtain ⟨m', k1, k2, k3, k4⟩ := hR
      exact g3 hX m' B a' w' k2 Q fun e' y' he' a'' w'' hR' => hQ e' y' he' a'' w'' (Reach.trans k1 k3 k4 hR')
    · cases h

/-- What is to be reckoned of a piece of code: how it ends, the temporaries and the memory behind it, what was decided. -/
def Goes (r : Option (Ex × Lf × Lg)) (e : Ex) (t : List Value) (h : Hp) (cs : Log) : Prop :=
  r.map (fun r => r.1) = some e ∧ r.map (fun r => r.2.1.1) = some t ∧ r.map (fun r => r.2.1.2.1) = some h ∧ r.map (fun r => r.2.2.cs) = some cs ∧
    r.map (fun r => r.2.2.es.map Prod.fst) = r.map (fun r => r.2.2.es.map Prod.snd) ∧ r.map (fun r => r.2.2.bs.map Prod.fst) = r.map (fun r => r.2.2.bs.map Prod.snd)
theorem goes_some {r : Option (Ex × Lf × Lg)} {e : Ex} {t : List Value} {h : Hp} {cs : Log} (hG : Goes r e t h cs) (hcs : okLog cs) : ∃ s L, r = some (e, (t, h, s), L) ∧ L.ok := by
  obtain ⟨h1, h2, h3, h4, h5, h6⟩ := hG
  cases r with
  | none => cases h1
  | some r =>
    simp only [Option.map_some, Option.some.injEq] at h1 h2 h3 h4 h5 h6
    obtain ⟨e', ⟨t', h', s'⟩, L⟩ := r
    simp only at h1 h2 h3 h4 h5 h6
    subst h1 h2 h3
    exact ⟨s', L, rfl, by rw [h4]; exact hcs, all_eq _ h5, all_eq _ h6⟩
theorem goes_runs {T : Tab} (hT : TabOk T) {n : Nat} {c : Code} {t t' : List Value} {h h' : Hp} {s s0 : List Dec} {e : Ex} {cs : Log} (hG : Goes (evC T n false c (t, h, s) ⟨[], [], []⟩) e t' h' cs) (hcs : okLog cs) : Runs T c (t, h, s0) fun e' y => e' = e ∧ y.1 = t' ∧ y.2.1 = h' := by
  obtain ⟨s', L, hr, hL⟩ := goes_some hG hcs
  refine Runs.script ((Runs.ev hT hr hL).mono fun e2 y he => ?_)
  obtain ⟨rfl, rfl⟩ := he
  exact ⟨rfl, rfl, rfl⟩
theorem goes_list {T : Tab} (hT : TabOk T) {n : Nat} {l : List Code} {X : Code} {t t' : List Value} {h h' : Hp} {s s0 : List Dec} {e : Ex} {cs : Log} {P : Ex → Lf → Prop} (hG : Goes (evL T n l (t, h, s) ⟨[], [], []⟩) e t' h' cs) (hcs : okLog cs)
    (hX : Runs T X (t', h', []) P) : Runs T (seqs l X) (t, h, s0) P := by
  obtain ⟨s', L, hr, hL⟩ := goes_some hG hcs
  obtain ⟨_, _, h3⟩ := evL_ok (X := X) (P := P) hT l _ _ _ _ _ hr hL
  exact Runs.script (h3 (Runs.script hX))
end Go.KRun

/-
  A RUN THAT THE KERNEL RECKONS, X: pieces of code told by the first temporaries alone: the others are whatever they are.
-/
namespace Go.KRun
open Go.RowKit

/-- temporaries of which nothing is known but how many they are -/
def tl (n : Nat) (g : Nat → Value) : List Value := (List.range n).map g
theorem tl_of {J : List Value} {n : Nat} (h : J.length = n) : ∃ g, J = tl n g := by
  refine ⟨fun i => J.getD i undef, ?_⟩
  unfold tl
  refine List.ext_getElem (by simp [h]) fun i h1 h2 => ?_
  simp [h1]
/-- What is to be reckoned of a piece of code: how it ends, the first k temporaries and how many more there are, the memory, what was decided. -/
def GoesT (r : Option (Ex × Lf × Lg)) (k n : Nat) (e : Ex) (front : List Value) (h : Hp) (cs : Log) : Prop :=
  r.map (fun r => (r.1, r.2.1.1.take k, (r.2.1.1.drop k).length, r.2.1.2.1, r.2.2.cs)) = some (e, front, n, h, cs) ∧
    r.map (fun r => r.2.2.es.map Prod.fst) = r.map (fun r => r.2.2.es.map Prod.snd) ∧ r.map (fun r => r.2.2.bs.map Prod.fst) = r.map (fun r => r.2.2.bs.map Prod.snd)
/-- the same, where no order is drawn -/
def GoesE (r : Option (Ex × Lf × Lg)) (k n : Nat) (e : Ex) (front : List Value) (h : Hp) (cs : Log) : Prop :=
  r.map (fun r => (r.1, r.2.1.1.take k, (r.2.1.1.drop k).length, r.2.1.2.1, r.2.2.cs, r.2.2.es, r.2.2.bs)) = some (e, front, n, h, cs, [], [])
theorem GoesE.t {r : Option (Ex × Lf × Lg)} {k n : Nat} {e : Ex} {front : List Value} {h : Hp} {cs : Log} (hG : GoesE r k n e front h cs) : GoesT r k n e front h cs := by
  unfold GoesE at hG
  cases r with
  | none => cases hG
  | some r =>
    simp only [Option.map_some, Option.some.injEq, Prod.mk.injEq] at hG
    obtain ⟨h1, h2, h3, h4, h5, h6, h7⟩ := hG
    refine ⟨?_, ?_, ?_⟩
    · rw [Option.map_some, h1, h2, h3, h4, h5]
    · simp [h6]
    · simp [h7]
theorem goesT_some {r : Option (Ex × Lf × Lg)} {k n : Nat} {e : Ex} {front : List Value} {h : Hp} {cs : Log} (hG : GoesT r k n e front h cs) (hcs : okLog cs) : ∃ g s L, r = some (e, (front ++ tl n g, h, s), L) ∧ L.ok := by
  obtain ⟨h1, h5, h6⟩ := hG
  cases r with
  | none => cases h1
  | some r =>
    simp only [Option.map_some, Option.some.injEq, Prod.mk.injEq] at h1 h5 h6
    obtain ⟨e', ⟨t', h', s'⟩, L⟩ := r
    simp only at h1 h5 h6
    obtain ⟨h1, h2, h3, h4, h7⟩ := h1
    subst h1 h4
    obtain ⟨g, hg⟩ := tl_of h3
    refine ⟨g, s', L, ?_, by rw [h7]; exact hcs, all_eq _ h5, all_eq _ h6⟩
    rw [← h2, ← hg, List.take_append_drop]
theorem goesT_runs {T : Tab} (hT : TabOk T) {N : Nat} {c : Code} {t : List Value} {h h' : Hp} {s s0 : List Dec} {k n : Nat} {e : Ex} {front : List Value} {cs : Log} (hG : GoesT (evC T N false c (t, h, s) ⟨[], [], []⟩) k n e front h' cs) (hcs : okLog cs) :
    Runs T c (t, h, s0) fun e' y => e' = e ∧ (∃ g, y.1 = front ++ tl n g) ∧ y.2.1 = h' := by
  obtain ⟨g, s', L, hr, hL⟩ := goesT_some hG hcs
  refine Runs.script ((Runs.ev hT hr hL).mono fun e2 y he => ?_)
  obtain ⟨rfl, rfl⟩ := he
  exact ⟨rfl, ⟨g, rfl⟩, rfl⟩
theorem goesT_list {T : Tab} (hT : TabOk T) {N : Nat} {l : List Code} {X : Code} {t : List Value} {h h' : Hp} {s s0 : List Dec} {k n : Nat} {e : Ex} {front : List Value} {cs : Log} {P : Ex → Lf → Prop} (hG : GoesT (evL T N l (t, h, s) ⟨[], [], []⟩) k n e front h' cs) (hcs : okLog cs)
    (hX : ∀ g, Runs T X (front ++ tl n g, h', []) P) : Runs T (seqs l X) (t, h, s0) P := by
  obtain ⟨g, s', L, hr, hL⟩ := goesT_some hG hcs
  obtain ⟨_, _, h3⟩ := evL_ok (X := X) (P := P) hT l _ _ _ _ _ hr hL
  exact Runs.script (h3 (Runs.script (hX g)))
/-- a call out of its body, where its arguments lie in memory that is there: what it answers, and that memory behind it -/
theorem hcalls_of_runs {T : Tab} {f : Nat} {F : Func} {c : Code} (hF : T.P.funcs[f]? = some F) (hc : F.body = some c) {vals : List Value} {v : Value} {h h' : Hp} (hv : lt 0 v = true) (ht : h'.tight = true)
    (hr : Runs T c (vals ++ List.replicate (F.ntmps - vals.length) undef, h, []) fun e y => (e = none ∨ e = some none) ∧ resS T.P F y.1 y.2.1 = some v ∧ y.2.1.cut h.n = h') (m : Mp) (B : Nat) (w : World) (E : Emb m B h w) (hvals : ∀ v ∈ vals, lt h.n v = true) :
    Calls T.P f (vals.map (mv m)).toArray w fun e w' => ∃ m', e = .returned (mv m' v) ∧ Came m B h w v h' m' w' := by
  refine calls_of_wp hF hc ?_
  have R : Rel m B (vals ++ List.replicate (F.ntmps - vals.length) undef, h, []) { tmps := (vals.map (mv m)).toArray ++ Array.replicate (F.ntmps - (vals.map (mv m)).toArray.size) undef, defers := [] } w := by
    refine ⟨?_, rfl, E, ?_⟩
    · simp [mv_undef]
    · intro y hy
      rcases List.mem_append.1 hy with hy | hy
      · exact hvals y hy
      · rw [List.eq_of_mem_replicate hy]; simp [undef, lt]
  refine hr _ _ _ w R _ fun e y he a' w' hR => ?_
  obtain ⟨hex, hres, hcut⟩ := he
  obtain ⟨m', k1, k2, k3, k4⟩ := hR
  obtain ⟨r1, r2⟩ := resS_run k2.emb k2.wf hres
  rw [← k2.tmps, mv_still hv] at r1
  have k4' : h.n ≤ y.2.1.n := k4
  have C : Came m B h w v h' m w' := by
    subst hcut
    exact ⟨Agree.refl _ _, k2.emb.cut k1 k4' ht, k3, by simp [Hp.cut], lt_mono (Nat.zero_le _) hv⟩
  have post : a'.defers = [] ∧ ∃ v', (results F a'.tmps).run T.P w' = .ok v' w' ∧ ∃ m', Ending.returned v' = .returned (mv m' v) ∧ Came m B h w v h' m' w' :=
    ⟨k2.dfr, _, r1, m, by rw [mv_still hv], C⟩
  rcases hex with rfl | rfl <;> exact post
/-- a 'for': what stands ahead of it, and its rounds -/
theorem Runs.forLoop {T : Tab} {c : Code} {id : Nat} {x : Lf} {P : Lf → Prop} {R : Lf → Prop} (Inv : Nat → Lf → Prop)
    (round : ∀ n x, Inv n x → Runs T c x fun e y => match e with | none => ∃ n', n' < n ∧ Inv n' y | some none => R y | some (some id') => id' = id ∧ P y) {n : Nat} (h0 : Inv n x) :
    Runs T (.block id (.loop c)) x fun e y => match e with | none => P y | some none => R y | some (some _) => False := by
  refine Runs.block (P1 := fun e y => match e with | none => False | some none => R y | some (some id') => id' = id ∧ P y) ?_ (fun y he => he.elim) (fun y he => he) (fun y he => he.2) (fun id' y hid he => absurd he.1 hid)
  refine Runs.loop Inv (fun n x hI => (round n x hI).mono fun e y he => ?_) h0
  match e, he with
  | none, he => exact he
  | some none, he => exact he
  | some (some id'), he => exact he
end Go.KRun
