/-
  RunK, TuX
-/
import Derived.Test.YtdlpffgekmidnabDoorG18
namespace Go.KRun
open Go.RowKit
def reckonAt (T : Tab) (h0 : Hp) (n : Nat) (f : Nat) (vals : List Value) (s : List Dec) : Option (Value × Hp × List Dec × Lg) := callBy T (evC T n false) f vals h0 s ⟨[], [], []⟩
theorem fitsAt_calls {T : Tab} (hT : TabOk T) {h0 : Hp} {n f : Nat} {vals : List Value} {s : List Dec} {v : Value} {cs : Log} (hF : Fits (reckonAt T h0 n f vals s) v cs) (hcs : okLog cs) (hvals : (vals.all (lt h0.n)) = true) (hv : lt 0 v = true) {m : Mp} {w : World} (E : Emb m w.heap.size h0 w) :
    Calls T.P f (vals.map (mv m)).toArray w fun e w' => e = .returned v ∧ Tidy w w' := by
  obtain ⟨h1, h2, h3, h4⟩ := hF
  cases hr : reckonAt T h0 n f vals s with
  | none => rw [hr] at h1; cases h1
  | some r =>
    rw [hr] at h1 h2 h3 h4
    simp only [Option.map_some, Option.some.injEq] at h1 h2 h3 h4
    obtain ⟨v', h', s', L⟩ := r
    simp only at h1 h2 h3 h4
    subst h1
    obtain ⟨_, _, h5⟩ := callBy_ok hT (evC_ok hT n).1 _ _ _ _ _ _ _ _ _ hr ⟨by rw [h2]; exact hcs, all_eq _ h3, all_eq _ h4⟩
    refine (h5 _ _ w E (List.all_eq_true.1 hvals)).mono fun en w' he => ?_
    obtain ⟨m', rfl, C⟩ := he
    exact ⟨by rw [mv_still hv], C.below, fun k h1 h2 => C.emb.ice k h1 h2⟩
/-- the same, where the arguments hold no address -/
theorem fitsAt_still {T : Tab} (hT : TabOk T) {h0 : Hp} {n f : Nat} {vals : List Value} {s : List Dec} {v : Value} {cs : Log} (hF : Fits (reckonAt T h0 n f vals s) v cs) (hcs : okLog cs) (hvals : (vals.all (lt 0)) = true) (hv : lt 0 v = true) {m : Mp} {w : World} (E : Emb m w.heap.size h0 w) :
    Calls T.P f vals.toArray w fun e w' => e = .returned v ∧ Tidy w w' := by
  have hst : ∀ y ∈ vals, lt 0 y = true := List.all_eq_true.1 hvals
  have e : vals.map (mv m) = vals := (List.map_congr_left fun y hy => mv_still (hst y hy)).trans (List.map_id' _)
  have := fitsAt_calls hT hF hcs (List.all_eq_true.2 fun y hy => lt_mono (Nat.zero_le _) (hst y hy)) hv E
  rw [e] at this
  exact this
end Go.KRun
namespace Go.Proofs.YtdlpffgekmidnabDoor
open Go.KRun Go.Wd
set_option maxRecDepth 100000
set_option linter.unusedVariables false
theorem tk_body2 : (Tryd.f3).body = some (seqs (kS Tryd.f3) (.seq (.seq (cFst (kF Tryd.f3)) (.block 0 (.loop (kA Tryd.f3)))) (kZ Tryd.f3))) := by kernel_rfl
theorem seenT_still (s : List (Int × Int)) : ∀ v ∈ seenT s, still v = true := fun v hv => (seenT_low s v hv).2
theorem same_pt (k m : Int) : (!(cK k m == coI (k % m) m && (sK k m == siI (k % m) m && true))) = false := by unfold cK sK; simp
theorem bne_self' (q : Int) : (q != q) = false := by simp
section
variable {X : List Value} {o n c : Nat} {k m : Int} {j : Nat} (hj : j < n) (hk : X[o + j * 2]? = some (.int .i64 k)) (hm : X[o + (j * 2 + 1)]? = some (.int .i64 m)) (SX : ∀ v ∈ X, still v = true)
include hj hk hm SX in
theorem badB (hg : badP m) {s : List (Int × Int)} {u12 : Value} {y : Lf} (h : TkAt X o n c (((s).length : Nat) : Int) (seenT (s)) (s) (j) u12 y) :
    RunsW (tabH Tryd.prog extY conTK hcTK) (kB Tryd.f3) y fun ex z => ex = none ∧ ∃ u12, TkAt X o n c (((s).length : Nat) : Int) (seenT (s)) (s) (j) u12 z := by
  have hb := decide_eq_true hg
  have mp := seenT_mp s
  refine canon SX (seenT_still s) h (fun hs0 u1 u2 u3 u4 u5 u9 u10 u11 u12 u13 u14 u15 S g hS => ?_) (fun u1 u2 u3 u4 u5 u9 u10 u11 u12 u13 u14 u15 g => ?_)
  · subst hs0
    refine (goesT_runsW (s0 := []) tkT (tk_eP o n c j u1 u2 u3 u4 u5 k m u9 u10 u11 u12 u13 u14 u15 S (seenT []) X _ g 0) (okPC rfl (okPC mp (okPC rfl (okPC (by kernel_rfl) (okPC (by kernel_rfl) (okPC hb (okPC hb (okPC (cell_k hm) (okPC (in_j hj) (okPC (cell_k hk) (okPC (in_j hj) (okPC rfl (okPC mp (okPC hb (okPC rfl (okPC mp (okPC hb (okPC (cell_k hm) (okPC (in_j hj) (okPC (cell_k hk) (okP1 (in_j hj))))))))))))))))))))))).mono fun ex z hz => ?_
    obtain ⟨rfl, ⟨g4, z1⟩, z2⟩ := hz
    exact ⟨rfl, _, tkAt_mk z1 (by rw [z2]; rfl) (by rw [z2]; rfl) (by rw [z2]; rfl) (.inl ⟨rfl, rfl, S, by rw [z2]; rfl, hS⟩)⟩
  · refine (goesT_runsW (s0 := []) tkT (tk_eQ o n c j u1 u2 u3 u4 u5 k m u9 u10 u11 u12 u13 u14 u15 (seenC s) (seenT s) X _ g s.length) (okPC (bne_self' _) (okPC mp (okPC rfl (okPC (by kernel_rfl) (okPC (by kernel_rfl) (okPC hb (okPC hb (okPC (cell_k hm) (okPC (in_j hj) (okPC (cell_k hk) (okPC (in_j hj) (okPC rfl (okPC mp (okPC hb (okPC rfl (okPC mp (okPC hb (okPC (cell_k hm) (okPC (in_j hj) (okPC (cell_k hk) (okP1 (in_j hj))))))))))))))))))))))).mono fun ex z hz => ?_
    obtain ⟨rfl, ⟨g4, z1⟩, z2⟩ := hz
    exact ⟨rfl, _, tkAt_mk z1 (by rw [z2]; rfl) (by rw [z2]; rfl) (by rw [z2]; rfl) (.inr ⟨3, by omega, rfl, by rw [z2]; rfl⟩)⟩
include hj hk hm SX in
theorem goodB (hg : ¬ badP m) {s : List (Int × Int)} (hs : s.length ≤ 100) {u12 : Value} {y : Lf} (h : TkAt X o n c (((s).length : Nat) : Int) (seenT (s)) (s) (j) u12 y) :
    RunsW (tabH Tryd.prog extY conTK hcTK) (kB Tryd.f3) y fun ex z => ex = none ∧ ∃ u12, TkAt X o n c (((grow s (k % m) m).length : Nat) : Int) (seenT (grow s (k % m) m)) (grow s (k % m) m) (j) u12 z := by
  have hb := decide_eq_false hg
  have mp := seenT_mp s
  have tail : ∀ y, TkAt X o n c (((grow s (k % m) m).length : Nat) : Int) (seenT (grow s (k % m) m)) s j .nilIface y → RunsW (tabH Tryd.prog extY conTK hcTK) (.seq (kH Tryd.f3) (kN Tryd.f3)) y fun ex z => ex = none ∧ ∃ u12, TkAt X o n c (((grow s (k % m) m).length : Nat) : Int) (seenT (grow s (k % m) m)) (grow s (k % m) m) (j) u12 z := by
    intro y hy
    refine RunsW.seq (goodH hj hk hm SX hg hs (seenT_still _) hy) ?_ (fun ex y he => by cases he.1)
    rintro y2 ⟨_, u12, h2⟩
    have mp2 := seenT_mp (grow s (k % m) m)
    generalize grow s (k % m) m = s2 at *
    refine canon SX (seenT_still s2) h2 (fun hs0 u1 u2 u3 u4 u5 u9 u10 u11 u12 u13 u14 u15 S g hS => ?_) (fun u1 u2 u3 u4 u5 u9 u10 u11 u12 u13 u14 u15 g => ?_)
    · refine (goesT_runsW (s0 := []) tkT (tk_nP o n c j u1 u2 u3 u4 u5 k m u9 u10 u11 u12 u13 u14 u15 S (seenT s2) X _ g 0) (okPC (by rw [hs0]; rfl) (okP1 mp2))).mono fun ex z hz => ?_
      obtain ⟨rfl, ⟨g4, z1⟩, z2⟩ := hz
      exact ⟨rfl, _, tkAt_mk z1 (by rw [z2]; rfl) (by rw [z2]; rfl) (by rw [z2]; rfl) (.inl ⟨hs0, rfl, S, by rw [z2]; rfl, hS⟩)⟩
    · refine (goesT_runsW (s0 := []) tkT (tk_nQ o n c j u1 u2 u3 u4 u5 k m u9 u10 u11 u12 u13 u14 u15 (seenC s2) (seenT s2) X _ g s2.length) (okPC (bne_self' _) (okP1 mp2))).mono fun ex z hz => ?_
      obtain ⟨rfl, ⟨g4, z1⟩, z2⟩ := hz
      exact ⟨rfl, _, tkAt_mk z1 (by rw [z2]; rfl) (by rw [z2]; rfl) (by rw [z2]; rfl) (.inr ⟨3, by omega, rfl, by rw [z2]; rfl⟩)⟩
  rw [kB_is]
  refine canon SX (seenT_still s) h (fun hs0 u1 u2 u3 u4 u5 u9 u10 u11 u12 u13 u14 u15 S g hS => ?_) (fun u1 u2 u3 u4 u5 u9 u10 u11 u12 u13 u14 u15 g => ?_)
  · subst hs0
    have gr : grow [] (k % m) m = [(k % m, m)] := rfl
    refine goesT_listW tkT (tk_gnP o n c j u1 u2 u3 u4 u5 k m u9 u10 u11 u12 u13 u14 u15 S (seenT []) X _ g 0) (okPC rfl (okPC (same_pt k m) (okPC hb (okPC hb (okPC (cell_k hm) (okPC (in_j hj) (okPC (cell_k hk) (okPC (in_j hj) (okPC rfl (okPC rfl (okPC mp (okPC hb (okPC rfl (okPC rfl (okPC mp (okPC hb (okPC (cell_k hm) (okPC (in_j hj) (okPC (cell_k hk) (okP1 (in_j hj))))))))))))))))))))) fun g4 => tail _ ?_
    rw [gr]
    exact tkAt_mk rfl rfl rfl rfl (.inl ⟨rfl, rfl, S, rfl, hS⟩)
  · by_cases hin : (k % m, m) ∈ s
    · refine goesT_listW tkT (tk_gkQ o n c j u1 u2 u3 u4 u5 k m u9 u10 u11 u12 u13 u14 u15 (seenC s) (seenT s) X _ g s.length) (okPC rfl (okPC (same_pt k m) (okPC hb (okPC hb (okPC (cell_k hm) (okPC (in_j hj) (okPC (cell_k hk) (okPC (in_j hj) (okPC rfl (okPC (here_of hin) (okPC mp (okPC hb (okPC rfl (okPC (here_of hin) (okPC mp (okPC hb (okPC (cell_k hm) (okPC (in_j hj) (okPC (cell_k hk) (okP1 (in_j hj))))))))))))))))))))) fun g4 => tail _ ?_
      rw [show grow s (k % m) m = s from if_pos hin]
      exact tkAt_mk rfl rfl rfl rfl (.inr ⟨3, by omega, rfl, rfl⟩)
    · refine goesT_listW tkT (tk_gnQ o n c j u1 u2 u3 u4 u5 k m u9 u10 u11 u12 u13 u14 u15 (seenC s) (seenT s) X _ g s.length) (okPC rfl (okPC (same_pt k m) (okPC hb (okPC hb (okPC (cell_k hm) (okPC (in_j hj) (okPC (cell_k hk) (okPC (in_j hj) (okPC rfl (okPC (none_of hin) (okPC mp (okPC hb (okPC rfl (okPC (none_of hin) (okPC mp (okPC hb (okPC (cell_k hm) (okPC (in_j hj) (okPC (cell_k hk) (okP1 (in_j hj))))))))))))))))))))) fun g4 => tail _ ?_
      rw [show grow s (k % m) m = s ++ [(k % m, m)] from if_neg hin, seenT_app, List.length_append]
      exact tkAt_mk rfl rfl rfl rfl (.inr ⟨3, by omega, rfl, rfl⟩)
end
theorem grow_len (s : List (Int × Int)) (K m : Int) : (grow s K m).length ≤ s.length + 1 := by
  unfold grow
  split
  · omega
  · simp
/-- where the loop ends -/
def TkZ (z : Lf) : Prop := ∃ l u1 u2 u3 u4 u5 r sv i u9 u10 u11 u12 u13 u14 u15 g, z.1 = tkF l u1 u2 u3 u4 u5 r sv i u9 u10 u11 u12 u13 u14 u15 ++ tl 129 g
section
variable {X : List Value} {o n c : Nat} {kz mz : Nat → Int} (hX : ∀ j, j < n → X[o + j * 2]? = some (.int .i64 (kz j)) ∧ X[o + (j * 2 + 1)]? = some (.int .i64 (mz j))) (SX : ∀ v ∈ X, still v = true)
include hX SX in
theorem tk_round {j : Nat} {s : List (Int × Int)} (hj20 : j ≤ 20) (hs : s.length ≤ j) {u12 : Value} {y : Lf} (h : TkAt X o n c (((s).length : Nat) : Int) (seenT (s)) (s) (j) u12 y) :
    RunsW (tabH Tryd.prog extY conTK hcTK) (kA Tryd.f3) y fun ex z => match ex with | none => j < 20 ∧ ∃ s' u12, s'.length ≤ j + 1 ∧ TkAt X o n c (((s').length : Nat) : Int) (seenT (s')) (s') (j + 1) u12 z | some none => False | some (some id') => id' = 0 ∧ TkZ z := by
  have body : ∀ y, j < n → j < 20 → (∃ u12, TkAt X o n c (((s).length : Nat) : Int) (seenT (s)) (s) (j) u12 y) → RunsW (tabH Tryd.prog extY conTK hcTK) (.seq (.block 1 (kB Tryd.f3)) (kR Tryd.f3)) y fun ex z => match ex with | none => j < 20 ∧ ∃ s' u12, s'.length ≤ j + 1 ∧ TkAt X o n c (((s').length : Nat) : Int) (seenT (s')) (s') (j + 1) u12 z | some none => False | some (some id') => id' = 0 ∧ TkZ z := by
    intro y hj h20 ⟨u12, hy⟩
    obtain ⟨hk, hm⟩ := hX j hj
    refine RunsW.seq (P1 := fun ex z => ex = none ∧ ∃ s' u12, s'.length ≤ j + 1 ∧ TkAt X o n c (((s').length : Nat) : Int) (seenT (s')) (s') (j) u12 z) ?_ ?_ (fun ex y he => by cases he.1)
    · refine RunsW.block (P1 := fun ex z => ex = none ∧ ∃ s' u12, s'.length ≤ j + 1 ∧ TkAt X o n c (((s').length : Nat) : Int) (seenT (s')) (s') (j) u12 z) ?_ (fun y he => he) (fun y he => by cases he.1) (fun y he => by cases he.1) (fun id' y hid he => by cases he.1)
      by_cases hg : badP (mz j)
      · refine (badB hj hk hm SX hg hy).mono fun ex z hz => ?_
        obtain ⟨e, u, hz⟩ := hz
        exact ⟨e, s, u, by omega, hz⟩
      · refine (goodB hj hk hm SX hg (by omega) hy).mono fun ex z hz => ?_
        obtain ⟨e, u, hz⟩ := hz
        exact ⟨e, _, u, Nat.le_trans (grow_len _ _ _) (by omega), hz⟩
    · rintro y2 ⟨_, s2, v12, hl, h2⟩
      have hw : IntKind.i64.wrap (((j : Nat) : Int) + 1) = ((j + 1 : Nat) : Int) := by
        rw [show IntKind.i64.wrap (((j : Nat) : Int) + 1) = ((j : Nat) : Int) + 1 from wrap_k (by omega) (by omega)]
        omega
      refine canon SX (seenT_still s2) h2 (fun hs0 u1 u2 u3 u4 u5 u9 u10 u11 u12 u13 u14 u15 S g hS => ?_) (fun u1 u2 u3 u4 u5 u9 u10 u11 u12 u13 u14 u15 g => ?_)
      · refine (goesT_runsW (s0 := []) tkT (tk_rP o n c j u1 u2 u3 u4 u5 0 0 u9 u10 u11 u12 u13 u14 u15 S (seenT s2) X _ g 0) okNil).mono fun ex z hz => ?_
        obtain ⟨rfl, ⟨g4, z1⟩, z2⟩ := hz
        rw [hw] at z1
        exact ⟨h20, s2, _, hl, tkAt_mk z1 (by rw [z2]; rfl) (by rw [z2]; rfl) (by rw [z2]; rfl) (.inl ⟨hs0, rfl, S, by rw [z2]; rfl, hS⟩)⟩
      · refine (goesT_runsW (s0 := []) tkT (tk_rQ o n c j u1 u2 u3 u4 u5 0 0 u9 u10 u11 u12 u13 u14 u15 (seenC s2) (seenT s2) X _ g s2.length) okNil).mono fun ex z hz => ?_
        obtain ⟨rfl, ⟨g4, z1⟩, z2⟩ := hz
        rw [hw] at z1
        exact ⟨h20, s2, _, hl, tkAt_mk z1 (by rw [z2]; rfl) (by rw [z2]; rfl) (by rw [z2]; rfl) (.inr ⟨3, by omega, rfl, by rw [z2]; rfl⟩)⟩
  rw [kA_is]
  refine canon SX (seenT_still s) h (fun hs0 u1 u2 u3 u4 u5 u9 u10 u11 u12 u13 u14 u15 S g hS => ?_) (fun u1 u2 u3 u4 u5 u9 u10 u11 u12 u13 u14 u15 g => ?_)
  · refine RunsW.seq (P1 := fun ex z => (ex = none ∧ j < n ∧ j < 20 ∧ ∃ u12, TkAt X o n c (((s).length : Nat) : Int) (seenT (s)) (s) (j) u12 z) ∨ (ex = some (some 0) ∧ TkZ z)) ?_ ?_ ?_
    · by_cases c1 : j < n
      · by_cases c2 : j < 20
        · refine (goesT_runsW (s0 := []) tkT (tk_qP o n c j u1 u2 u3 u4 u5 0 0 u9 u10 u11 u12 u13 u14 u15 S (seenT s) X _ g 0) (okPC (decide_eq_true (by omega)) (okP1 (decide_eq_true (by omega))))).mono fun ex z hz => ?_
          obtain ⟨rfl, ⟨g4, z1⟩, z2⟩ := hz
          exact .inl ⟨rfl, c1, c2, _, tkAt_mk z1 (by rw [z2]; rfl) (by rw [z2]; rfl) (by rw [z2]; rfl) (.inl ⟨hs0, rfl, S, by rw [z2]; rfl, hS⟩)⟩
        · refine (goesT_runsW (s0 := []) tkT (tk_qbP o n c j u1 u2 u3 u4 u5 0 0 u9 u10 u11 u12 u13 u14 u15 S (seenT s) X _ g 0) (okPC (decide_eq_false (by omega)) (okP1 (decide_eq_true (by omega))))).mono fun ex z hz => ?_
          obtain ⟨rfl, ⟨g4, z1⟩, z2⟩ := hz
          exact .inr ⟨rfl, _, _, _, _, _, _, _, _, _, _, _, _, _, _, _, _, g4, z1⟩
      · refine (goesT_runsW (s0 := []) tkT (tk_qaP o n c j u1 u2 u3 u4 u5 0 0 u9 u10 u11 u12 u13 u14 u15 S (seenT s) X _ g 0) (okP1 (decide_eq_false (by omega)))).mono fun ex z hz => ?_
        obtain ⟨rfl, ⟨g4, z1⟩, z2⟩ := hz
        exact .inr ⟨rfl, _, _, _, _, _, _, _, _, _, _, _, _, _, _, _, _, g4, z1⟩
    · rintro y2 (⟨_, c1, c2, h2⟩ | ⟨he, _⟩)
      · exact body y2 c1 c2 h2
      · cases he
    · rintro ex y2 (⟨he, _⟩ | ⟨he, hz⟩)
      · cases he
      · cases he
        exact ⟨rfl, hz⟩
  · refine RunsW.seq (P1 := fun ex z => (ex = none ∧ j < n ∧ j < 20 ∧ ∃ u12, TkAt X o n c (((s).length : Nat) : Int) (seenT (s)) (s) (j) u12 z) ∨ (ex = some (some 0) ∧ TkZ z)) ?_ ?_ ?_
    · by_cases c1 : j < n
      · by_cases c2 : j < 20
        · refine (goesT_runsW (s0 := []) tkT (tk_qQ o n c j u1 u2 u3 u4 u5 0 0 u9 u10 u11 u12 u13 u14 u15 (seenC s) (seenT s) X _ g s.length) (okPC (decide_eq_true (by omega)) (okP1 (decide_eq_true (by omega))))).mono fun ex z hz => ?_
          obtain ⟨rfl, ⟨g4, z1⟩, z2⟩ := hz
          exact .inl ⟨rfl, c1, c2, _, tkAt_mk z1 (by rw [z2]; rfl) (by rw [z2]; rfl) (by rw [z2]; rfl) (.inr ⟨3, by omega, rfl, by rw [z2]; rfl⟩)⟩
        · refine (goesT_runsW (s0 := []) tkT (tk_qbQ o n c j u1 u2 u3 u4 u5 0 0 u9 u10 u11 u12 u13 u14 u15 (seenC s) (seenT s) X _ g s.length) (okPC (decide_eq_false (by omega)) (okP1 (decide_eq_true (by omega))))).mono fun ex z hz => ?_
          obtain ⟨rfl, ⟨g4, z1⟩, z2⟩ := hz
          exact .inr ⟨rfl, _, _, _, _, _, _, _, _, _, _, _, _, _, _, _, _, g4, z1⟩
      · refine (goesT_runsW (s0 := []) tkT (tk_qaQ o n c j u1 u2 u3 u4 u5 0 0 u9 u10 u11 u12 u13 u14 u15 (seenC s) (seenT s) X _ g s.length) (okP1 (decide_eq_false (by omega)))).mono fun ex z hz => ?_
        obtain ⟨rfl, ⟨g4, z1⟩, z2⟩ := hz
        exact .inr ⟨rfl, _, _, _, _, _, _, _, _, _, _, _, _, _, _, _, _, g4, z1⟩
    · rintro y2 (⟨_, c1, c2, h2⟩ | ⟨he, _⟩)
      · exact body y2 c1 c2 h2
      · cases he
    · rintro ex y2 (⟨he, _⟩ | ⟨he, hz⟩)
      · cases he
      · cases he
        exact ⟨rfl, hz⟩
end
/-! the run -/
theorem tk_s (o n c : Nat) (X : List Value) : GoesT (evL (tabH Tryd.prog extY conTK hcTK) 300 (kS Tryd.f3) ([lP o n c] ++ List.replicate 144 undef, ⟨2, [(X, askR), (kV, kT)]⟩, [cmp false, cmp false, cmp false, cmp false]) ⟨[], [], []⟩) 16 129 none [lP o n c, undef, .bool false, .pointer none, .pointer (some ⟨2, 0, none⟩), .iface 42 (.int .i64 1), .pointer (some ⟨3, 0, none⟩), .slice none 0 0, undef, undef, undef, undef, undef, undef, undef, undef] ⟨4, [([.int .i64 0], obT), ([.int .u64 0, .int .u64 0], 26), (X, askR), (kV, kT)]⟩ [((0 : Int) != 0, false), (isMp [.int .i64 0], true), ((0 : Int) != 0, false), ((1 : Int) != 1, false), (Nat.beq 42 42 && Nat.beq kT kT && kOk kV, true)] := ⟨by kernel_rfl, by kernel_rfl, by kernel_rfl⟩
theorem tk_f (l u1 u2 u3 u4 u5 r sv u8 u9 u10 u11 u12 u13 u14 u15 : Value) (h : Hp) (g : Nat → Value) : GoesT (evC (tabH Tryd.prog extY conTK hcTK) 300 false (cFst (kF Tryd.f3)) ([l, u1, u2, u3, u4, u5, r, sv, u8, u9, u10, u11, u12, u13, u14, u15] ++ tl 129 g, h, []) ⟨[], [], []⟩) 16 129 none [l, u1, u2, u3, u4, u5, r, sv, .int .i64 0, u9, u10, u11, u12, u13, u14, u15] h [] := ⟨by kernel_rfl, by kernel_rfl, by kernel_rfl⟩
theorem tk_z (l u1 u2 u3 u4 u5 r sv u8 u9 u10 u11 u12 u13 u14 u15 : Value) (h : Hp) (g : Nat → Value) : GoesT (evC (tabH Tryd.prog extY conTK hcTK) 300 false (kZ Tryd.f3) ([l, u1, u2, u3, u4, u5, r, sv, u8, u9, u10, u11, u12, u13, u14, u15] ++ tl 129 g, h, []) ⟨[], [], []⟩) 3 142 (some none) [l, u1, .bool true] h [] := ⟨by kernel_rfl, by kernel_rfl, by kernel_rfl⟩
theorem tk_res (l u1 : Value) (h : Hp) (g : Nat → Value) : resS Tryd.prog Tryd.f3 ([l, u1, .bool true] ++ tl 142 g) h = some (.bool true) := rfl
section
variable {X : List Value} {o n c : Nat} {kz mz : Nat → Int} (hX : ∀ j, j < n → X[o + j * 2]? = some (.int .i64 (kz j)) ∧ X[o + (j * 2 + 1)]? = some (.int .i64 (mz j))) (SX : ∀ v ∈ X, still v = true)
include hX SX in
theorem tk_loop {u12 : Value} {y : Lf} (h : TkAt X o n c 0 [] [] 0 u12 y) : RunsW (tabH Tryd.prog extY conTK hcTK) (.block 0 (.loop (kA Tryd.f3))) y fun ex z => ex = none ∧ TkZ z := by
  refine (RunsW.forLoop (R := fun _ => False) (P := TkZ) (fun r y => ∃ j s u12, r = 20 - j ∧ j ≤ 20 ∧ s.length ≤ j ∧ TkAt X o n c (((s).length : Nat) : Int) (seenT (s)) (s) (j) u12 y) ?_ (n := 20 - 0) ⟨0, [], u12, rfl, by omega, Nat.le_refl _, h⟩).mono fun ex z hz => ?_
  · rintro r y ⟨j, s, u12, rfl, hj, hs, hy⟩
    refine (tk_round hX SX hj hs hy).mono fun ex z hz => ?_
    match ex, hz with
    | none, hz =>
      obtain ⟨h20, s2, v12, hl, hz⟩ := hz
      exact ⟨20 - (j + 1), by omega, j + 1, s2, v12, rfl, by omega, hl, hz⟩
    | some none, hz => exact hz
    | some (some _), hz => exact hz
  · match ex, hz with
    | none, hz => exact ⟨rfl, hz⟩
include hX SX in
theorem tk_runs : RunsW (tabH Tryd.prog extY conTK hcTK) (seqs (kS Tryd.f3) (.seq (.seq (cFst (kF Tryd.f3)) (.block 0 (.loop (kA Tryd.f3)))) (kZ Tryd.f3))) ([lP o n c] ++ List.replicate 144 undef, ⟨2, [(X, askR), (kV, kT)]⟩, []) fun ex z => (ex = none ∨ ex = some none) ∧ resS Tryd.prog Tryd.f3 z.1 z.2.1 = some (.bool true) := by
  refine goesT_listW tkT (tk_s o n c X) (okPC rfl (okPC rfl (okPC rfl (okPC rfl (okP1 (by kernel_rfl)))))) fun g => ?_
  refine RunsW.seq (P1 := fun ex z => ex = none ∧ TkZ z) ?_ ?_ (fun ex y he => by cases he.1)
  · refine RunsW.seq (goesT_runsW tkT (tk_f _ _ _ _ _ _ _ _ _ _ _ _ _ _ _ _ _ g) okNil) ?_ (fun ex y he => by cases he.1)
    rintro ⟨tt, hh, sc⟩ ⟨_, ⟨g3, e1⟩, e2⟩
    simp only at e1 e2
    subst e1 e2
    have hp : ∀ v ∈ [Value.int .u64 0, Value.int .u64 0], still v = true := fun v hv => by
      simp only [List.mem_cons, List.not_mem_nil, or_false] at hv
      rcases hv with rfl | rfl <;> rfl
    refine RunsW.preP (s' := []) [some (lP o n c), none, none, none, none, none, some obP, some (.slice none 0 0), some (.int .i64 ((0 : Nat) : Int)), none, none, none, none, none, none, none] [0, 1, 3, 2] [(kV, kT), (X, askR), ([.int .i64 0], obT), ([.int .u64 0, .int .u64 0], 26)] (fun jj g2 => tk_loop hX SX (tkAt_mk (s := []) (g := g2) rfl rfl rfl rfl (.inl ⟨rfl, rfl, _, rfl, hp⟩))) rfl (Nat.succ_pos 3) ⟨rfl, rfl, rfl, rfl, trivial⟩ ?_ (by decide) (by rfl)
    · intro qq hq
      simp only [List.zip_cons_cons, List.zip_nil_right, List.mem_cons, List.not_mem_nil, or_false] at hq
      rcases hq with rfl | rfl | rfl | rfl
      · exact kept_k kV_still rfl _ (Nat.succ_pos 3)
      · exact kept_k SX rfl _ (Nat.succ_pos 3)
      · exact ⟨rfl, rfl⟩
      · exact ⟨rfl, rfl⟩
  · rintro ⟨tt, hh, sc⟩ ⟨_, l, u1, u2, u3, u4, u5, r, sv, i, u9, u10, u11, u12, u13, u14, u15, g3, e1⟩
    simp only at e1
    subst e1
    refine (goesT_runsW tkT (tk_z l u1 u2 u3 u4 u5 r sv (.int .i64 i) u9 u10 u11 u12 u13 u14 u15 hh g3) okNil).mono fun ex z hz => ?_
    obtain ⟨rfl, ⟨g4, z1⟩, z2⟩ := hz
    exact ⟨.inr rfl, by rw [z1]; exact tk_res _ _ _ g4⟩
end
/-- of nothing -/
theorem tk_nil : Fits (reckonAt (tabH Tryd.prog extY conTK hcTK) hK 300 3 [.slice none 0 0] [cmp false, cmp false, cmp false, cmp false, cmp false]) (.bool true) [(decide ((0 : Int) < 0), false), ((0 : Int) != 0, false), (isMp [.int .i64 0], true), ((0 : Int) != 0, false), ((1 : Int) != 1, false), (Nat.beq 42 42 && Nat.beq kT kT && kOk kV, true)] := ⟨by kernel_rfl, by kernel_rfl, by kernel_rfl, by kernel_rfl⟩
end Go.Proofs.YtdlpffgekmidnabDoor
