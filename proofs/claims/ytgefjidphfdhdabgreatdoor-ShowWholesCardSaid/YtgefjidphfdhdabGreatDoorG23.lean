/-
  ShP, PhA, PhE, PhF, ShA, RfN, RfD, RnA, RnB, RnC
-/
import Derived.Test.YtgefjidphfdhdabGreatDoorG22
import Derived.Laws.Closers25b
namespace Go.Proofs.YtgefjidphfdhdabGreatDoor
open Go.KRun Go.Nt Go.Rd Go.Wd Go.Pt
set_option maxRecDepth 100000
/-- the two numbers, the nearer one first -/
def nrV (p : Int) (n : Nat) : Nat := arN (nrU (sp14A p (lsP p)) (sp14M p (lsP p)) (10 ^ (atL p - n))) (sp14A p (lsP p)) (10 ^ (atL p - n))
def frV (p : Int) (n : Nat) : Nat := arX (nrU (sp14A p (lsP p)) (sp14M p (lsP p)) (10 ^ (atL p - n))) (sp14A p (lsP p)) (10 ^ (atL p - n))
theorem nr_is (p : Int) (n : Nat) : (nrV p n = hi14V p n ∧ frV p n = lo14V p n ∧ nrU (sp14A p (lsP p)) (sp14M p (lsP p)) (10 ^ (atL p - n)) = true) ∨ (nrV p n = lo14V p n ∧ frV p n = hi14V p n ∧ nrU (sp14A p (lsP p)) (sp14M p (lsP p)) (10 ^ (atL p - n)) = false) := by
  unfold nrV frV arN arX
  cases nrU (sp14A p (lsP p)) (sp14M p (lsP p)) (10 ^ (atL p - n)) with
  | true => exact .inl ⟨if_pos rfl, if_pos rfl, rfl⟩
  | false => exact .inr ⟨if_neg (by decide), if_neg (by decide), rfl⟩
section
variable {p : Int}
theorem hasI (h : Fin14 p) (x : Nat) : (decide (((sp14L p (lsP p) : Nat) : Int) ≤ ((x : Nat) : Int)) && decide (((x : Nat) : Int) ≤ ((sp14H p (lsP p) : Nat) : Int))) = inSp p (lsP p) x := by
  rw [sp_has h, decide_eq_decide.2 (show ((sp14L p (lsP p) : Nat) : Int) ≤ ((x : Nat) : Int) ↔ sp14L p (lsP p) ≤ x by omega), decide_eq_decide.2 (show ((x : Nat) : Int) ≤ ((sp14H p (lsP p) : Nat) : Int) ↔ x ≤ sp14H p (lsP p) by omega)]
theorem ten_le19 (h : Fin14 p) : 10 ^ atL p ≤ 10000000000000000000 := Nat.pow_le_pow_right (n := 10) (by omega) (atL_bd h).1.2
theorem two_bd (h : Fin14 p) {n : Nat} (h1 : 1 ≤ n) (h2 : n ≤ 17) : 10 ^ (atL p - 1) ≤ lo14V p n ∧ hi14V p n ≤ 10 ^ atL p ∧ lo14V p n ≤ hi14V p n := by
  obtain ⟨⟨l1, l2⟩, a, b⟩ := atL_bd h
  have hu : 0 < 10 ^ (atL p - n) := Nat.pow_pos (by omega)
  have e1 : 10 ^ atL p = 10 ^ n * 10 ^ (atL p - n) := by rw [← Nat.pow_add]; congr 1; omega
  have e2 : 10 ^ (atL p - 1) = 10 ^ (n - 1) * 10 ^ (atL p - n) := by rw [← Nat.pow_add]; congr 1; omega
  have q1 : 10 ^ (n - 1) ≤ sp14A p (lsP p) / 10 ^ (atL p - n) := (Nat.le_div_iff_mul_le hu).2 (by rw [← e2]; exact a)
  have q2 : sp14A p (lsP p) / 10 ^ (atL p - n) < 10 ^ n := (Nat.div_lt_iff_lt_mul hu).2 (by rw [← e1]; exact b)
  unfold lo14V hi14V
  refine ⟨?_, ?_, Nat.mul_le_mul_right _ (by omega)⟩
  · rw [e2]; exact Nat.mul_le_mul_right _ q1
  · rw [e1]; exact Nat.mul_le_mul_right _ q2
theorem okAr_ok (h : Fin14 p) {n : Nat} (h1 : 1 ≤ n) (h2 : n ≤ 17) : okAr (sp14A p (lsP p)) (10 ^ (atL p - n)) = true := by
  obtain ⟨⟨l1, l2⟩, _⟩ := atL_bd h
  obtain ⟨_, b, _⟩ := two_bd h h1 h2
  have := ten_le19 h
  refine decide_eq_true ⟨?_, ?_⟩
  · have : 10 ^ 1 ≤ 10 ^ (atL p - n) := Nat.pow_le_pow_right (by omega) (by omega)
    omega
  · have e : hi14V p n = (sp14A p (lsP p) / 10 ^ (atL p - n) + 1) * 10 ^ (atL p - n) := rfl
    rw [← e]
    omega
end
/-- what lies in memory -/
def srK (p : Int) : Hp := srM (sgn p) (cl p) (xp p) (sg p) ((sp14L p (lsP p) : Nat) : Int) ((sp14H p (lsP p) : Nat) : Int) ((sp14A p (lsP p) : Nat) : Int) (sp14M p (lsP p)) (lsP p)
def srA (p u : Int) : List Value := srF (sgn p) (cl p) (xp p) (sg p) u
def srB (p u n f : Int) : List Value := srG (sgn p) (cl p) (xp p) (sg p) u n f
def srS1 (p : Int) (i : Nat) (y : Lf) : Prop := i ≤ atL p - 1 ∧ ∃ g, y.1 = srA p ((10 ^ i : Nat) : Int) ++ tl 44 g ∧ y.2.1 = srK p
def srS2 (p : Int) (n : Nat) (y : Lf) : Prop := (1 ≤ n ∧ n ≤ nP p) ∧ ∃ g, y.1 = srB p ((10 ^ (atL p - n) : Nat) : Int) ((nrV p n : Nat) : Int) ((frV p n : Nat) : Int) ++ tl 42 g ∧ y.2.1 = srK p
theorem sr_r1 {p : Int} (h : Fin14 p) (r : Nat) (y : Lf) (hy : ∃ i, r = atL p - 1 - i ∧ srS1 p i y) :
    Runs (tabH Tryz.prog extY conSr hcSr) (srL1 Tryz.f33) y fun e z => match e with | none => ∃ r', r' < r ∧ ∃ i, r' = atL p - 1 - i ∧ srS1 p i z | some none => False | some (some id') => id' = 0 ∧ srS1 p (atL p - 1) z := by
  obtain ⟨i, hr, hi, g, ht, hh⟩ := hy
  obtain ⟨t, h', sc⟩ := y
  simp only at ht hh
  subst ht hh
  obtain ⟨⟨l1, l2⟩, a, b⟩ := atL_bd h
  have t19 := ten_le19 h
  have ew : IntKind.u64.wrap (((sp14A p (lsP p) : Nat) : Int).tdiv 10) = ((sp14A p (lsP p) / 10 : Nat) : Int) := by
    rw [Int.tdiv_eq_ediv_of_nonneg (by omega), u64w (by omega) (by omega)]
    omega
  by_cases hc : i < atL p - 1
  · have hp : 10 ^ (i + 1) ≤ sp14A p (lsP p) := Nat.le_trans (Nat.pow_le_pow_right (by omega) (by omega)) a
    rw [Nat.pow_succ] at hp
    have hg := sr_1g (sgn p) (cl p) (xp p) (sg p) ((sp14L p (lsP p) : Nat) : Int) ((sp14H p (lsP p) : Nat) : Int) ((sp14A p (lsP p) : Nat) : Int) (lsP p) ((10 ^ i : Nat) : Int) (sp14M p (lsP p)) g
    have em : IntKind.u64.wrap (((10 ^ i : Nat) : Int) * 10) = ((10 ^ (i + 1) : Nat) : Int) := by
      rw [Nat.pow_succ, u64w (by omega) (by omega)]
      omega
    rw [em] at hg
    refine (goesT_runs (s0 := sc) tabSr hg (okL1 (decide_eq_true (by rw [ew]; omega)))).mono fun e z he => ?_
    obtain ⟨rfl, ⟨g', z1⟩, z2⟩ := he
    exact ⟨atL p - 1 - (i + 1), by omega, i + 1, rfl, by omega, g', z1, z2⟩
  · have ei : i = atL p - 1 := by omega
    have hn : ¬ 10 ^ i ≤ sp14A p (lsP p) / 10 := by
      intro c
      have : 10 ^ atL p = 10 ^ i * 10 := by rw [← Nat.pow_succ]; congr 1; omega
      omega
    refine (goesT_runs (s0 := sc) tabSr (sr_1x (sgn p) (cl p) (xp p) (sg p) ((sp14L p (lsP p) : Nat) : Int) ((sp14H p (lsP p) : Nat) : Int) ((sp14A p (lsP p) : Nat) : Int) (lsP p) ((10 ^ i : Nat) : Int) (sp14M p (lsP p)) g) (okL1 (decide_eq_false (by rw [ew]; omega)))).mono fun e z he => ?_
    obtain ⟨rfl, ⟨g', z1⟩, z2⟩ := he
    rw [ei] at z1
    exact ⟨rfl, Nat.le_refl _, g', z1, z2⟩
theorem lAr_ok {p : Int} (h : Fin14 p) {n : Nat} (h1 : 1 ≤ n) (h2 : n ≤ 17) {b : Bool} (hb : nrU (sp14A p (lsP p)) (sp14M p (lsP p)) (10 ^ (atL p - n)) = b) {l : Log} (hl : okLog l) : okLog (lAr ((sp14A p (lsP p) : Nat) : Int) ((10 ^ (atL p - n) : Nat) : Int) (sp14M p (lsP p)) b l) := by
  unfold lAr
  rw [Int.toNat_natCast, Int.toNat_natCast]
  exact okCons hb (okCons (okAr_ok h h1 h2) (okCons (decide_eq_true ⟨Int.natCast_nonneg _, Int.natCast_nonneg _⟩) hl))
theorem sr_r2 {p : Int} (h : Fin14 p) (r : Nat) (y : Lf) (hy : ∃ n, r = nP p - n ∧ srS2 p n y) :
    Runs (tabH Tryz.prog extY conSr hcSr) (srL2 Tryz.f33) y fun e z => match e with | none => ∃ r', r' < r ∧ ∃ n, r' = nP p - n ∧ srS2 p n z | some none => False | some (some id') => id' = 2 ∧ srS2 p (nP p) z := by
  obtain ⟨n, hr, ⟨n1, n2⟩, g, ht, hh⟩ := hy
  obtain ⟨t, h', sc⟩ := y
  simp only at ht hh
  subst ht hh
  obtain ⟨⟨l1, l2⟩, _⟩ := atL_bd h
  obtain ⟨_, ⟨_, n17⟩, _⟩ := short_is h
  have se := srch_end h n1 n2
  have orE : (inSp p (lsP p) (nrV p n) = true ∨ inSp p (lsP p) (frV p n) = true) ↔ n = nP p := by
    rw [← se]
    rcases nr_is p n with ⟨e1, e2, _⟩ | ⟨e1, e2, _⟩ <;> rw [e1, e2]
    exact or_comm
  have hN := hasI h (nrV p n)
  have hF := hasI h (frV p n)
  cases c1 : inSp p (lsP p) (nrV p n) with
  | true =>
    have en := orE.1 (.inl c1)
    refine (goesT_runs (s0 := sc) tabSr (sr_2x1 (sgn p) (cl p) (xp p) (sg p) ((sp14L p (lsP p) : Nat) : Int) ((sp14H p (lsP p) : Nat) : Int) ((sp14A p (lsP p) : Nat) : Int) (lsP p) ((10 ^ (atL p - n) : Nat) : Int) ((nrV p n : Nat) : Int) ((frV p n : Nat) : Int) (sp14M p (lsP p)) g) (okL1 (by rw [hN]; exact c1))).mono fun e z he => ?_
    obtain ⟨rfl, ⟨g', z1⟩, z2⟩ := he
    rw [← en]
    exact ⟨rfl, ⟨n1, n2⟩, g', z1, z2⟩
  | false =>
    cases c2 : inSp p (lsP p) (frV p n) with
    | true =>
      have en := orE.1 (.inr c2)
      refine (goesT_runs (s0 := sc) tabSr (sr_2x2 (sgn p) (cl p) (xp p) (sg p) ((sp14L p (lsP p) : Nat) : Int) ((sp14H p (lsP p) : Nat) : Int) ((sp14A p (lsP p) : Nat) : Int) (lsP p) ((10 ^ (atL p - n) : Nat) : Int) ((nrV p n : Nat) : Int) ((frV p n : Nat) : Int) (sp14M p (lsP p)) g) (okCons (by rw [hF]; exact c2) (okL1 (by rw [hN]; exact c1)))).mono fun e z he => ?_
      obtain ⟨rfl, ⟨g', z1⟩, z2⟩ := he
      rw [← en]
      exact ⟨rfl, ⟨n1, n2⟩, g', z1, z2⟩
    | false =>
      have hne : n ≠ nP p := fun c => by
        rcases orE.2 c with c3 | c3
        · rw [c1] at c3; cases c3
        · rw [c2] at c3; cases c3
      have eu : IntKind.u64.wrap (((10 ^ (atL p - n) : Nat) : Int).tdiv 10) = ((10 ^ (atL p - (n + 1)) : Nat) : Int) := by
        have e : 10 ^ (atL p - n) = 10 ^ (atL p - (n + 1)) * 10 := by rw [← Nat.pow_succ]; congr 1; omega
        have b : 10 ^ (atL p - (n + 1)) ≤ 10 ^ atL p := Nat.pow_le_pow_right (by omega) (by omega)
        have := ten_le19 h
        rw [e, Int.tdiv_eq_ediv_of_nonneg (by omega), u64w (by omega) (by omega)]
        omega
      have fin : ∀ b, nrU (sp14A p (lsP p)) (sp14M p (lsP p)) (10 ^ (atL p - (n + 1))) = b → ((arN b (sp14A p (lsP p)) (10 ^ (atL p - (n + 1))) = nrV p (n + 1)) ∧ (arX b (sp14A p (lsP p)) (10 ^ (atL p - (n + 1))) = frV p (n + 1))) := fun b hb => by
        unfold nrV frV
        rw [hb]
        exact ⟨rfl, rfl⟩
      have lg : ∀ b, nrU (sp14A p (lsP p)) (sp14M p (lsP p)) (10 ^ (atL p - (n + 1))) = b → okLog (lAr ((sp14A p (lsP p) : Nat) : Int) ((10 ^ (atL p - (n + 1)) : Nat) : Int) (sp14M p (lsP p)) b [(decide (((sp14L p (lsP p) : Nat) : Int) ≤ ((frV p n : Nat) : Int)) && decide (((frV p n : Nat) : Int) ≤ ((sp14H p (lsP p) : Nat) : Int)), false), (decide (((sp14L p (lsP p) : Nat) : Int) ≤ ((nrV p n : Nat) : Int)) && decide (((nrV p n : Nat) : Int) ≤ ((sp14H p (lsP p) : Nat) : Int)), false)]) := fun b hb => lAr_ok h (by omega) (by omega) hb (okCons (by rw [hF]; exact c2) (okL1 (by rw [hN]; exact c1)))
      cases c3 : nrU (sp14A p (lsP p)) (sp14M p (lsP p)) (10 ^ (atL p - (n + 1))) with
      | true =>
        have hg := sr_2gt (sgn p) (cl p) (xp p) (sg p) ((sp14L p (lsP p) : Nat) : Int) ((sp14H p (lsP p) : Nat) : Int) ((sp14A p (lsP p) : Nat) : Int) (lsP p) ((10 ^ (atL p - n) : Nat) : Int) ((nrV p n : Nat) : Int) ((frV p n : Nat) : Int) (sp14M p (lsP p)) g
        rw [eu, Int.toNat_natCast, Int.toNat_natCast, (fin true c3).1, (fin true c3).2] at hg
        refine (goesT_runs (s0 := sc) tabSr hg (lg true c3)).mono fun e z he => ?_
        obtain ⟨rfl, ⟨g', z1⟩, z2⟩ := he
        exact ⟨nP p - (n + 1), by omega, n + 1, rfl, ⟨by omega, by omega⟩, g', z1, z2⟩
      | false =>
        have hg := sr_2gf (sgn p) (cl p) (xp p) (sg p) ((sp14L p (lsP p) : Nat) : Int) ((sp14H p (lsP p) : Nat) : Int) ((sp14A p (lsP p) : Nat) : Int) (lsP p) ((10 ^ (atL p - n) : Nat) : Int) ((nrV p n : Nat) : Int) ((frV p n : Nat) : Int) (sp14M p (lsP p)) g
        rw [eu, Int.toNat_natCast, Int.toNat_natCast, (fin false c3).1, (fin false c3).2] at hg
        refine (goesT_runs (s0 := sc) tabSr hg (lg false c3)).mono fun e z he => ?_
        obtain ⟨rfl, ⟨g', z1⟩, z2⟩ := he
        exact ⟨nP p - (n + 1), by omega, n + 1, rfl, ⟨by omega, by omega⟩, g', z1, z2⟩
/-- its digits and its power -/
def sdD (p : Int) : List UInt8 := trR (dcL (shV p))
def sdE (p : Int) : Int := lsP p + (((dcL (shV p)).length : Nat) : Int) - 1
theorem sr_calls {p : Int} (h : Fin14 p) (w : World) (hk : knT w) : Calls Tryz.prog 33 #[vT p] w fun r w' => r = .returned (vDc (sdD p) (sdE p)) ∧ Tidy w w' := by
  have ev : ∀ m : Mp, [vT p].map (mv m) = [vT p] := fun m => (List.map_congr_left fun y hy => mv_still (by rw [List.mem_singleton.1 hy]; rfl)).trans (List.map_id' _)
  have q0 : 0 ≤ sg p := by
    have := fr_lt p
    unfold sg
    split
    · omega
    · split <;> omega
  have f1 := h.ne
  have f2 := h.e0
  have f3 := h.e1
  have f4 := h.s1
  have main := calls_of_start (T := tabH Tryz.prog extY conSr hcSr) Tryz.func33 sr_body (h0 := hT0) (vals := [vT p]) (fun v hv => by rw [List.mem_singleton.1 hv]; rfl) (v := vDc (sdD p) (sdE p)) (by rfl) (m := fun b => (b, 0)) (w := w) ?_ (startT hk)
  · rw [ev] at main
    exact main
  obtain ⟨⟨l1, l2⟩, a, b⟩ := atL_bd h
  obtain ⟨_, ⟨p1, p17⟩, _⟩ := short_is h
  obtain ⟨_, _, j1, j2⟩ := at_bd h
  refine goesT_list tabSr (sr_pre (sgn p) (cl p) (xp p) (sg p)) (okL1 (decide_eq_true (by omega))) fun g => ?_
  -- the first loop
  refine Runs.seq (P1 := fun e y => match e with | none => srS1 p (atL p - 1) y | some none => False | some (some _) => False) (Runs.forLoop (R := fun _ => False) (P := srS1 p (atL p - 1)) (fun r y => ∃ i, r = atL p - 1 - i ∧ srS1 p i y) (sr_r1 h) (n := atL p - 1 - 0) ⟨0, rfl, Nat.zero_le _, g, rfl, rfl⟩) ?_ (fun e y he => by match e, he with | none, he => exact he.elim | some _, he => exact he.elim)
  rintro ⟨t, hh, sc⟩ ⟨_, g1, e1, e2⟩
  simp only at e1 e2
  subst e1 e2
  -- the first two numbers
  have mid : Runs (tabH Tryz.prog extY conSr hcSr) (sP Tryz.f33 4) (srA p ((10 ^ (atL p - 1) : Nat) : Int) ++ tl 44 g1, srK p, sc) fun e y => e = none ∧ srS2 p 1 y := by
    have fin : ∀ b, nrU (sp14A p (lsP p)) (sp14M p (lsP p)) (10 ^ (atL p - 1)) = b → ((arN b (sp14A p (lsP p)) (10 ^ (atL p - 1)) = nrV p 1) ∧ (arX b (sp14A p (lsP p)) (10 ^ (atL p - 1)) = frV p 1)) := fun b hb => by
      unfold nrV frV
      rw [hb]
      exact ⟨rfl, rfl⟩
    cases c3 : nrU (sp14A p (lsP p)) (sp14M p (lsP p)) (10 ^ (atL p - 1)) with
    | true =>
      have hg := sr_mt (sgn p) (cl p) (xp p) (sg p) ((sp14L p (lsP p) : Nat) : Int) ((sp14H p (lsP p) : Nat) : Int) ((sp14A p (lsP p) : Nat) : Int) (lsP p) ((10 ^ (atL p - 1) : Nat) : Int) (sp14M p (lsP p)) g1
      rw [Int.toNat_natCast, Int.toNat_natCast, (fin true c3).1, (fin true c3).2] at hg
      refine (goesT_runs (s0 := sc) tabSr hg (lAr_ok h (by omega) (by omega) c3 okN9R)).mono fun e z he => ?_
      obtain ⟨rfl, ⟨g', z1⟩, z2⟩ := he
      exact ⟨rfl, ⟨by omega, p1⟩, g', z1, z2⟩
    | false =>
      have hg := sr_mf (sgn p) (cl p) (xp p) (sg p) ((sp14L p (lsP p) : Nat) : Int) ((sp14H p (lsP p) : Nat) : Int) ((sp14A p (lsP p) : Nat) : Int) (lsP p) ((10 ^ (atL p - 1) : Nat) : Int) (sp14M p (lsP p)) g1
      rw [Int.toNat_natCast, Int.toNat_natCast, (fin false c3).1, (fin false c3).2] at hg
      refine (goesT_runs (s0 := sc) tabSr hg (lAr_ok h (by omega) (by omega) c3 okN9R)).mono fun e z he => ?_
      obtain ⟨rfl, ⟨g', z1⟩, z2⟩ := he
      exact ⟨rfl, ⟨by omega, p1⟩, g', z1, z2⟩
  refine Runs.seq mid ?_ (fun e y he => by cases he.1)
  rintro ⟨t, hh, sc2⟩ ⟨_, hs2⟩
  -- the second loop
  refine Runs.seq (P1 := fun e y => match e with | none => srS2 p (nP p) y | some none => False | some (some _) => False) (Runs.forLoop (R := fun _ => False) (P := srS2 p (nP p)) (fun r y => ∃ n, r = nP p - n ∧ srS2 p n y) (sr_r2 h) (n := nP p - 1) ⟨1, rfl, hs2⟩) ?_ (fun e y he => by match e, he with | none, he => exact he.elim | some _, he => exact he.elim)
  rintro ⟨t3, hh3, sc3⟩ ⟨_, g3, e1, e2⟩
  simp only at e1 e2
  subst e1 e2
  -- the end
  have sv := shV_is h
  have bd := two_bd h p1 p17
  have t19 := ten_le19 h
  have t17 : 10 ^ 17 ≤ 10 ^ (atL p - 1) := Nat.pow_le_pow_right (by omega) (by omega)
  have e17 : (10 : Nat) ^ 17 = 100000000000000000 := rfl
  have hN := hasI h (nrV p (nP p))
  have bds : ∀ x, x = lo14V p (nP p) ∨ x = hi14V p (nP p) → (100 : Int) ≤ ((x : Nat) : Int) ∧ ((x : Nat) : Int) < 18446744073709551616 ∧ -100000 ≤ lsP p ∧ lsP p ≤ 100000 := fun x hx => by
    rcases hx with rfl | rfl <;> omega
  have isN : nrV p (nP p) = lo14V p (nP p) ∨ nrV p (nP p) = hi14V p (nP p) := by rcases nr_is p (nP p) with ⟨c, _⟩ | ⟨c, _⟩ <;> simp [c]
  have isF : frV p (nP p) = lo14V p (nP p) ∨ frV p (nP p) = hi14V p (nP p) := by rcases nr_is p (nP p) with ⟨_, c, _⟩ | ⟨_, c, _⟩ <;> simp [c]
  cases c1 : inSp p (lsP p) (nrV p (nP p)) with
  | true =>
    have ex : shV p = nrV p (nP p) := by
      rw [sv]
      rcases nr_is p (nP p) with ⟨c, _, d⟩ | ⟨c, _, d⟩
      · rw [d, if_pos rfl, ← c, if_pos c1]
      · rw [d, if_neg (by decide), ← c, if_pos c1]
    refine (goesT_runs (s0 := sc3) tabSr (sr_e1 (sgn p) (cl p) (xp p) (sg p) ((sp14L p (lsP p) : Nat) : Int) ((sp14H p (lsP p) : Nat) : Int) ((sp14A p (lsP p) : Nat) : Int) (lsP p) ((10 ^ (atL p - nP p) : Nat) : Int) ((nrV p (nP p) : Nat) : Int) ((frV p (nP p) : Nat) : Int) (sp14M p (lsP p)) g3) (okCons (decide_eq_true (bds _ isN)) (okL1 (by rw [hN]; exact c1)))).mono fun e z he => ?_
    obtain ⟨rfl, ⟨g', z1⟩, z2⟩ := he
    refine ⟨.inr rfl, ?_⟩
    rw [z1, z2]
    unfold sdD sdE
    rw [ex]
    rfl
  | false =>
    have ex : shV p = frV p (nP p) := by
      rw [sv]
      rcases nr_is p (nP p) with ⟨c, c', d⟩ | ⟨c, c', d⟩
      · rw [d, if_pos rfl, ← c, if_neg (by rw [c1]; decide), c']
      · rw [d, if_neg (by decide), ← c, if_neg (by rw [c1]; decide), c']
    refine (goesT_runs (s0 := sc3) tabSr (sr_e2 (sgn p) (cl p) (xp p) (sg p) ((sp14L p (lsP p) : Nat) : Int) ((sp14H p (lsP p) : Nat) : Int) ((sp14A p (lsP p) : Nat) : Int) (lsP p) ((10 ^ (atL p - nP p) : Nat) : Int) ((nrV p (nP p) : Nat) : Int) ((frV p (nP p) : Nat) : Int) (sp14M p (lsP p)) g3) (okCons (decide_eq_true (bds _ isF)) (okL1 (by rw [hN]; exact c1)))).mono fun e z he => ?_
    obtain ⟨rfl, ⟨g', z1⟩, z2⟩ := he
    refine ⟨.inr rfl, ?_⟩
    rw [z1, z2]
    unfold sdD sdE
    rw [ex]
    rfl
end Go.Proofs.YtgefjidphfdhdabGreatDoor
namespace Go.Proofs.YtgefjidphfdhdabGreatDoor
open Go.KRun
set_option maxRecDepth 100000
set_option linter.unusedVariables false
/-- what a digit of base 16 stands for -/
def hxV (c : Int) : Int := if 48 ≤ c ∧ c ≤ 57 then c - 48 else if 97 ≤ c ∧ c ≤ 102 then c - 87 else 0
def hxOk (c : Int) : Bool := decide ((48 ≤ c ∧ c ≤ 57) ∨ (97 ≤ c ∧ c ≤ 102))
/-! ### the pieces of Parse -/
end Go.Proofs.YtgefjidphfdhdabGreatDoor
namespace Go.Proofs.YtgefjidphfdhdabGreatDoor
open Go.KRun Go.Pt
set_option maxRecDepth 100000
set_option linter.unusedVariables false
def hxT : List UInt8 := [48, 49, 50, 51, 52, 53, 54, 55, 56, 57, 97, 98, 99, 100, 101, 102]
def hSx (q : Int) : Int := q.fdiv (2 ^ min (Int.toNat 4) 64)
def hC (q : Int) : Int := ((hxT.getD (bAnd q 15).toNat 0).toNat : Nat)
def hBx (q : Int) : UInt8 := UInt8.ofNat (hC q).toNat
def hSn (p : Int) : Nat → Int
  | 0 => p
  | n + 1 => hSx (hSn p n)
def inX (q : Int) : Bool := decide (0 ≤ bAnd q 15 ∧ (bAnd q 15).toNat < hxT.length)
def hxW (p : Int) : ByteArray := ⟨#[hBx (hSn p 15), hBx (hSn p 14), hBx (hSn p 13), hBx (hSn p 12), hBx (hSn p 11), hBx (hSn p 10), hBx (hSn p 9), hBx (hSn p 8), hBx (hSn p 7), hBx (hSn p 6), hBx (hSn p 5), hBx (hSn p 4), hBx (hSn p 3), hBx (hSn p 2), hBx (hSn p 1), hBx (hSn p 0)]⟩
def hxL (p : Int) : Nat → Log
  | 0 => []
  | n + 1 => (false, false) :: (inX (hSn p n), true) :: hxL p n
theorem hex_fits (p : Int) : Fits (reckon (tabOf Tryz.prog extY conN true) 3000 35 [.int .u64 p] []) (.string (hxW p)) (hxL p 16) := ⟨by kernel_rfl, by kernel_rfl, by kernel_rfl, by kernel_rfl⟩
def rPx (q : Int) : List UInt8 := (hxT.drop (q.tmod 16).toNat).take ((IntKind.u64.wrap (q.tmod 16 + 1)).toNat - (q.tmod 16).toNat)
theorem nib_cases (q : Int) : q % 16 = 0 ∨ q % 16 = 1 ∨ q % 16 = 2 ∨ q % 16 = 3 ∨ q % 16 = 4 ∨ q % 16 = 5 ∨ q % 16 = 6 ∨ q % 16 = 7 ∨ q % 16 = 8 ∨ q % 16 = 9 ∨ q % 16 = 10 ∨ q % 16 = 11 ∨ q % 16 = 12 ∨ q % 16 = 13 ∨ q % 16 = 14 ∨ q % 16 = 15 := by omega
theorem tmod16 {q : Int} (h : 0 ≤ q) : q.tmod 16 = q % 16 := Int.tmod_eq_emod_of_nonneg h
theorem hS_eq {q : Int} (h : 0 ≤ q) : hSx q = q / 16 := by
  have e : ((2 : Int) ^ min (Int.toNat 4) 64) = 16 := rfl
  unfold hSx
  rw [e, Int.fdiv_eq_ediv_of_nonneg _ (by omega)]
theorem U_div {q : Int} (h : U q) : U (q / 16) := by
  have h0 := h.1
  have h1 := h.2
  exact ⟨by omega, by omega⟩
theorem hSn_U {p : Int} (h : U p) : ∀ n, U (hSn p n)
  | 0 => h
  | n + 1 => by
    show U (hSx (hSn p n))
    rw [hS_eq (hSn_U h n).1]
    exact U_div (hSn_U h n)
theorem hB_is {q : Int} (h : U q) : inX q = true ∧ rPx q = [hBx q] ∧ hxV (((hBx q).toNat : Nat) : Int) = q % 16 ∧ hxOk (((hBx q).toNat : Nat) : Int) = true ∧ decide (0 ≤ q.tmod 16 ∧ q.tmod 16 ≤ IntKind.u64.wrap (q.tmod 16 + 1) ∧ IntKind.u64.wrap (q.tmod 16 + 1) ≤ (hxT.length : Int)) = true := by
  unfold inX rPx hBx hC
  rw [tmod16 h.1, bAnd_nib h]
  rcases nib_cases q with e | e | e | e | e | e | e | e | e | e | e | e | e | e | e | e <;> rw [e] <;> exact ⟨by rfl, by rfl, by rfl, by rfl, by rfl⟩
theorem hxL_ok {p : Int} (h : U p) : ∀ n, okLog (hxL p n)
  | 0 => fun x hx => by cases hx
  | n + 1 => okCons rfl (okCons (hB_is (hSn_U h n)).1 (hxL_ok h n))
theorem hex_calls (p : Int) (hp : U p) (w : World) : Calls Tryz.prog 35 #[.int .u64 p] w fun e w' => e = .returned (.string (hxW p)) ∧ Tidy w w' :=
  fits_calls (tabY_ok conN_ok) (hex_fits p) (hxL_ok hp 16) (by rfl) (by rfl) w
end Go.Proofs.YtgefjidphfdhdabGreatDoor
namespace Go.Proofs.YtgefjidphfdhdabGreatDoor
open Go.KRun Go.Nt Go.Rd
set_option maxRecDepth 100000
/-- of what is no finite number: 0: a finite one, 1: none, 2, 3: endless -/
def spK (p : Int) : Int := if 3 < Go.Pt.cl p then 1 else if p = 9218868437227405312 then 2 else if p = 18442240474082181120 then 3 else 0
def spL (k : Int) : List UInt8 := if k = 1 then [110, 97, 110] else if k = 2 then [105, 110, 102] else if k = 3 then [45, 105, 110, 102] else []
end Go.Proofs.YtgefjidphfdhdabGreatDoor
namespace Go.Proofs.YtgefjidphfdhdabGreatDoor
open Go.KRun Go.Nt
def vRN (m : Bool) (e : Int) (v : Value) : Value := .agg #[.bool m, .int .i64 e, v]
end Go.Proofs.YtgefjidphfdhdabGreatDoor
namespace Go.Proofs.YtgefjidphfdhdabGreatDoor
open Go.KRun Go.Nt Go.Wd
set_option maxRecDepth 100000
set_option linter.unusedVariables false
abbrev pX9 (neg : Bool) (E N M : Int) (o n c : Nat) (r : List Value) : List Value := vRN neg E (sl 0 o n c) :: .int .i64 N :: .int .i64 M :: .pointer (some ⟨1, 0, none⟩) :: undef :: undef :: r
end Go.Proofs.YtgefjidphfdhdabGreatDoor
namespace Go.Proofs.YtgefjidphfdhdabGreatDoor
open Go.KRun Go.Wd Go.Pt Go.Rn
set_option maxRecDepth 100000
/-! ### goesUp -/
theorem u0 (c m : Int) (o n : Bool) : Fits (reckon (tabOf Tryz.prog extY conN true) 300 78 [.int .i64 c, .bool o, .bool n, .int .i64 m] [cmp true]) (Value.bool false) [(c == 0, true)] := ⟨by kernel_rfl, by kernel_rfl, by kernel_rfl, by kernel_rfl⟩
theorem u2 (c m : Int) (o n : Bool) : Fits (reckon (tabOf Tryz.prog extY conN true) 300 78 [.int .i64 c, .bool o, .bool n, .int .i64 m] [cmp false, cmp true]) (Value.bool false) [(m == 2, true), (c == 0, false)] := ⟨by kernel_rfl, by kernel_rfl, by kernel_rfl, by kernel_rfl⟩
theorem u3 (c m : Int) (o n : Bool) : Fits (reckon (tabOf Tryz.prog extY conN true) 300 78 [.int .i64 c, .bool o, .bool n, .int .i64 m] [cmp false, cmp false, cmp true]) (Value.bool !n) [(m == 3, true), (m == 2, false), (c == 0, false)] := ⟨by kernel_rfl, by kernel_rfl, by kernel_rfl, by kernel_rfl⟩
theorem u4 (c m : Int) (o n : Bool) : Fits (reckon (tabOf Tryz.prog extY conN true) 300 78 [.int .i64 c, .bool o, .bool n, .int .i64 m] [cmp false, cmp false, cmp false, cmp true]) (Value.bool n) [(m == 4, true), (m == 3, false), (m == 2, false), (c == 0, false)] := ⟨by kernel_rfl, by kernel_rfl, by kernel_rfl, by kernel_rfl⟩
theorem u1 (c m : Int) (o n : Bool) : Fits (reckon (tabOf Tryz.prog extY conN true) 300 78 [.int .i64 c, .bool o, .bool n, .int .i64 m] [cmp false, cmp false, cmp false, cmp false, cmp true]) (Value.bool (decide (c ≥ 2))) [(m == 1, true), (m == 4, false), (m == 3, false), (m == 2, false), (c == 0, false)] := ⟨by kernel_rfl, by kernel_rfl, by kernel_rfl, by kernel_rfl⟩
theorem ua (c m : Int) (o n : Bool) : Fits (reckon (tabOf Tryz.prog extY conN true) 300 78 [.int .i64 c, .bool o, .bool n, .int .i64 m] [cmp false, cmp false, cmp false, cmp false, cmp false, cmp true]) (Value.bool true) [(decide (c > 2), true), (m == 1, false), (m == 4, false), (m == 3, false), (m == 2, false), (c == 0, false)] := ⟨by kernel_rfl, by kernel_rfl, by kernel_rfl, by kernel_rfl⟩
theorem ub (c m : Int) (o n : Bool) : Fits (reckon (tabOf Tryz.prog extY conN true) 300 78 [.int .i64 c, .bool o, .bool n, .int .i64 m] [cmp false, cmp false, cmp false, cmp false, cmp false, cmp false, cmp true]) (Value.bool o) [(c == 2, true), (decide (c > 2), false), (m == 1, false), (m == 4, false), (m == 3, false), (m == 2, false), (c == 0, false)] := ⟨by kernel_rfl, by kernel_rfl, by kernel_rfl, by kernel_rfl⟩
theorem uc (c m : Int) (o n : Bool) : Fits (reckon (tabOf Tryz.prog extY conN true) 300 78 [.int .i64 c, .bool o, .bool n, .int .i64 m] [cmp false, cmp false, cmp false, cmp false, cmp false, cmp false, cmp false]) (Value.bool false) [(c == 2, false), (decide (c > 2), false), (m == 1, false), (m == 4, false), (m == 3, false), (m == 2, false), (c == 0, false)] := ⟨by kernel_rfl, by kernel_rfl, by kernel_rfl, by kernel_rfl⟩
def gUp : Ans := fun vals s =>
  match vals with
  | [.int .i64 c, .bool o, .bool n, .int .i64 m] => some (.bool (upR m n o c), s, [])
  | _ => none
theorem up_calls (c m : Int) (o n : Bool) (w : World) : Calls Tryz.prog 78 #[.int .i64 c, .bool o, .bool n, .int .i64 m] w fun e w' => e = .returned (.bool (upR m n o c)) ∧ Tidy w w' := by
  unfold upR
  by_cases h0 : c = 0
  · rw [if_pos h0]
    exact fits_calls (tabY_ok conN_ok) (u0 c m o n) (by simp [okCs, okNl, h0]) (by rfl) (by rfl) w
  · rw [if_neg h0]
    by_cases h2 : m = 2
    · rw [if_pos h2]
      exact fits_calls (tabY_ok conN_ok) (u2 c m o n) (by simp [okCs, okNl, h0, h2]) (by rfl) (by rfl) w
    · rw [if_neg h2]
      by_cases h3 : m = 3
      · rw [if_pos h3]
        exact fits_calls (tabY_ok conN_ok) (u3 c m o n) (by simp [okCs, okNl, h0, h3]) (by rfl) (by rfl) w
      · rw [if_neg h3]
        by_cases h4 : m = 4
        · rw [if_pos h4]
          exact fits_calls (tabY_ok conN_ok) (u4 c m o n) (by simp [okCs, okNl, h0, h4]) (by rfl) (by rfl) w
        · rw [if_neg h4]
          by_cases h1 : m = 1
          · rw [if_pos h1]
            exact fits_calls (tabY_ok conN_ok) (u1 c m o n) (by simp [okCs, okNl, h0, h1]) (by rfl) (by rfl) w
          · rw [if_neg h1]
            by_cases ha : 2 < c
            · have e : (decide (2 < c) || (decide (c = 2) && o)) = true := by simp [ha]
              rw [e]
              exact fits_calls (tabY_ok conN_ok) (ua c m o n) (by simp [okCs, okNl, h0, h1, h2, h3, h4, ha]) (by rfl) (by rfl) w
            · by_cases hb : c = 2
              · have e : (decide (2 < c) || (decide (c = 2) && o)) = o := by simp [hb]
                rw [e]
                exact fits_calls (tabY_ok conN_ok) (ub c m o n) (by simp [okCs, okNl, h1, h2, h3, h4, hb]) (by rfl) (by rfl) w
              · have e : (decide (2 < c) || (decide (c = 2) && o)) = false := by simp [ha, hb]
                rw [e]
                exact fits_calls (tabY_ok conN_ok) (uc c m o n) (by simp [okCs, okNl, h0, h1, h2, h3, h4, hb]; omega) (by rfl) (by rfl) w
theorem gUp_ok : AnsOk 78 gUp := by
  intro vals s v s' lg h hl w
  unfold gUp at h
  split at h
  · cases h; exact up_calls _ _ _ _ w
  · cases h
/-! ### what is known of wide -/
def conW : Con := alt 75 (g1n (plain1n shlV4)) (alt 102 (g1n shrB) (alt 79 (g1n (plain1n bitV4)) (alt 74 (g1 lenV4) (alt 103 (g2 (plain2 addV4)) conN))))
theorem conW_ok : ConOk conW := alt_ok Tryz.func75 rfl (plain1n_ok shl_calls) (alt_ok Tryz.func102 rfl shrB_ok (alt_ok Tryz.func79 rfl (plain1n_ok bit_calls) (alt_ok Tryz.func74 rfl (g1_ok wlen_calls) (alt_ok Tryz.func103 rfl (plain2_ok add_calls) conN_ok))))
theorem shlW_nat {x : W4} (hx : x.ok) {n : Int} (hn : 0 ≤ n) : shlW x n = ofN (x.nat * 2 ^ n.toNat) := by
  unfold shlW
  by_cases h1 : n < 1
  · have : n = 0 := by omega
    subst this
    rw [if_pos h1]
    simp [ofN_self hx]
  · rw [if_neg h1]
    by_cases h2 : 256 ≤ n
    · rw [if_pos h2, ofN_big (by omega)]
    · rw [if_neg h2, W4.nat_val hx, cast_pow]
      unfold ofN
      congr 1
theorem shrW_nat {x : W4} (hx : x.ok) {n : Int} (hn : 0 ≤ n) : shrW x n = ofN (x.nat / 2 ^ n.toNat) := by
  unfold shrW
  by_cases h1 : n < 1
  · have : n = 0 := by omega
    subst this
    rw [if_pos h1]
    simp [ofN_self hx]
  · rw [if_neg h1]
    by_cases h2 : 256 ≤ n
    · rw [if_pos h2, small_div (W4.nat_lt hx) (by omega), ofN_zero]
    · rw [if_neg h2, W4.nat_val hx, cast_pow]
      unfold ofN
      congr 1
theorem shrL_nat {x : W4} (hx : x.ok) {n : Int} (hn : 0 ≤ n) : shrL x n = decide (x.nat % 2 ^ n.toNat ≠ 0) := by
  unfold shrL
  by_cases h1 : n < 1
  · have : n = 0 := by omega
    subst this
    rw [if_pos h1]
    simp [Nat.mod_one]
  · rw [if_neg h1]
    by_cases h2 : 256 ≤ n
    · rw [if_pos h2, small_mod (W4.nat_lt hx) (by omega), W4.nat_val hx]
      congr 1
      simp
    · rw [if_neg h2, W4.nat_val hx, cast_pow]
      congr 1
      have : ((x.nat : Int) % ((2 ^ n.toNat : Nat) : Int)) = ((x.nat % 2 ^ n.toNat : Nat) : Int) := rfl
      rw [this]
      simp only [ne_eq, eq_iff_iff]
      omega
theorem bitI_nat {x : W4} (hx : x.ok) {n : Int} (hn : 0 ≤ n) : bitI x n = ((x.nat / 2 ^ n.toNat % 2 : Nat) : Int) := by
  unfold bitI
  rw [if_neg (by omega)]
  by_cases h2 : 256 ≤ n
  · rw [if_pos h2, small_div (W4.nat_lt hx) (by omega)]
    rfl
  · rw [if_neg h2, W4.nat_val hx, cast_pow]
    rfl
/-! ### halves -/
def hv (x : W4) (b : Bool) : W4 := match b with | true => ⟨bOr (shlW x 1).a 1, (shlW x 1).b, (shlW x 1).c, (shlW x 1).d⟩ | false => shlW x 1
def lOne (x : W4) : Bool × Bool := (decide (x.ok ∧ (-9223372036854775808 : Int) ≤ 1 ∧ (1 : Int) ≤ 9223372036854775807), true)
theorem hv_fits (x : W4) (b : Bool) : Fits (reckon (tabOf Tryz.prog extY conW true) 300 76 [vW x, .bool b] []) (vW (hv x b)) [lOne x] := by
  cases b <;> exact ⟨by kernel_rfl, by kernel_rfl, by kernel_rfl, by kernel_rfl⟩
theorem bOr_comm (x y : Int) : bOr x y = bOr y x := by unfold bOr; rw [BitVec.or_comm]
theorem hv_eq {x : W4} (hx : x.ok) (b : Bool) : hv x b = ofN (tw x b) := by
  have e1 := shlW_nat hx (n := 1) (by omega)
  have e2 : x.nat * 2 ^ (1 : Int).toNat = 2 * x.nat := by simp [Nat.mul_comm]
  rw [e2] at e1
  cases b
  · unfold hv tw
    simp only [Nat.add_zero]
    exact e1
  · unfold hv tw
    simp only
    rw [e1]
    have e3 : bOr (ofN (2 * x.nat)).a 1 = (ofN (2 * x.nat)).a + 1 := by
      have hb : 0 ≤ (ofN (2 * x.nat)).a ∧ (ofN (2 * x.nat)).a < 18446744073709551616 := (ofN_ok _).1
      have hev : (ofN (2 * x.nat)).a % 2 = 0 := by unfold ofN W4.of; dsimp only; omega
      rw [bOr_comm, or_low 1 (z := (ofN (2 * x.nat)).a / 2) (by omega) (by omega) (by omega) (by decide) (by omega)]
    rw [e3]
    unfold ofN W4.of
    refine W4.ext' ?_ ?_ ?_ ?_ <;> dsimp only <;> omega
def gHv : Ans := fun vals s =>
  match vals with
  | [x, .bool b] =>
    match w4 x with
    | some a => some (vW (ofN (tw a b)), s, [(decide a.ok, true)])
    | none => none
  | _ => none
theorem gHv_ok : AnsOk 76 gHv := by
  intro vals s v s' lg h hl w
  unfold gHv at h
  split at h
  · split at h
    · rename_i a ha
      cases h
      have h1 : a.ok := of_decide_eq_true (hl _ (List.mem_singleton.2 rfl))
      rw [w4_spec ha, ← hv_eq h1]
      exact fits_calls (tabY_ok conW_ok) (hv_fits a _) (okL1 (decide_eq_true ⟨h1, by omega, by omega⟩)) (by rfl) (by rfl) w
    · cases h
  · cases h
def conH : Con := alt 76 gHv conW
theorem conH_ok : ConOk conH := alt_ok Tryz.func76 rfl gHv_ok conW_ok
/-! ### numbers -/
def vN (n : Bool) (e : Int) (x : W4) (b : Bool) : Value := .agg #[.bool n, .int .i64 e, .int .u64 x.a, .int .u64 x.b, .int .u64 x.c, .int .u64 x.d, .bool b]
def n7 : Value → Option (Bool × Int × W4 × Bool)
  | .agg cs =>
    match cs.toList with
    | [.bool n, .int .i64 e, .int .u64 a, .int .u64 b, .int .u64 c, .int .u64 d, .bool m] => some (n, e, ⟨a, b, c, d⟩, m)
    | _ => none
  | _ => none
theorem n7_spec {v : Value} {n m : Bool} {e : Int} {x : W4} (h : n7 v = some (n, e, x, m)) : v = vN n e x m := by
  unfold n7 at h
  split at h
  · rename_i cs
    split at h
    · rename_i a b c d hc
      cases h
      obtain ⟨l⟩ := cs
      simp only at hc
      subst hc
      rfl
    · cases h
  · cases h
/-! ### cut -/
def lok (x : W4) (n : Int) : Bool × Bool := (decide (x.ok ∧ -9223372036854775808 ≤ n ∧ n ≤ 9223372036854775807), true)
def dnI (ex e : Int) : Int := IntKind.i64.wrap (e - ex)
def dn1 (ex e : Int) : Int := IntKind.i64.wrap (IntKind.i64.wrap (e - ex) - 1)
def ctV (x : W4) (ex e c : Int) : Value := .tuple #[vW (shrW x (dnI ex e)), .int .i64 c]
theorem ct0 (n : Bool) (x : W4) (ex e : Int) : Fits (reckon (tabOf Tryz.prog extY conH true) 300 77 [vN n ex x false, .int .i64 e] [cmp false]) (ctV x ex e 0) [lok x (dnI ex e), (shrL x (dnI ex e), false)] := ⟨by kernel_rfl, by kernel_rfl, by kernel_rfl, by kernel_rfl⟩
theorem ct1 (n : Bool) (x : W4) (ex e : Int) : Fits (reckon (tabOf Tryz.prog extY conH true) 300 77 [vN n ex x true, .int .i64 e] [cmp false, cmp true]) (ctV x ex e 2) [(dnI ex e == 0, true), lok x (dnI ex e), (shrL x (dnI ex e), false)] := ⟨by kernel_rfl, by kernel_rfl, by kernel_rfl, by kernel_rfl⟩
theorem ct2 (n : Bool) (x : W4) (ex e : Int) (d : Bool) : Fits (reckon (tabOf Tryz.prog extY conH true) 300 77 [vN n ex x true, .int .i64 e] [cmp false, cmp false, cmp d]) (ctV x ex e (match d with | true => 1 | false => 3)) [(bitI x (dn1 ex e) == 0, d), lok x (dn1 ex e), (dnI ex e == 0, false), lok x (dnI ex e), (shrL x (dnI ex e), false)] := by
  cases d <;> exact ⟨by kernel_rfl, by kernel_rfl, by kernel_rfl, by kernel_rfl⟩
theorem ct4 (n b : Bool) (x : W4) (ex e : Int) : Fits (reckon (tabOf Tryz.prog extY conH true) 300 77 [vN n ex x b, .int .i64 e] [cmp true, cmp false, cmp true]) (ctV x ex e 1) [(bitI x (dn1 ex e) == 0, true), lok x (dn1 ex e), (dnI ex e == 0, false), lok x (dnI ex e), (shrL x (dnI ex e), true)] := ⟨by kernel_rfl, by kernel_rfl, by kernel_rfl, by kernel_rfl⟩
theorem ct5 (n : Bool) (x : W4) (ex e : Int) : Fits (reckon (tabOf Tryz.prog extY conH true) 300 77 [vN n ex x true, .int .i64 e] [cmp true, cmp false, cmp false]) (ctV x ex e 3) [(bitI x (dn1 ex e) == 0, false), lok x (dn1 ex e), (dnI ex e == 0, false), lok x (dnI ex e), (shrL x (dnI ex e), true)] := ⟨by kernel_rfl, by kernel_rfl, by kernel_rfl, by kernel_rfl⟩
def bkW (x : W4) (ex e : Int) : W4 := shlW (ofN (tw (shrW x (dnI ex e)) true)) (dn1 ex e)
theorem ct6 (n : Bool) (x : W4) (ex e : Int) (d : Bool) : Fits (reckon (tabOf Tryz.prog extY conH true) 300 77 [vN n ex x false, .int .i64 e] [cmp true, cmp false, cmp false, sam d]) (ctV x ex e (match d with | true => 3 | false => 2)) [(!(eqW x (bkW x ex e)), d), lok (ofN (tw (shrW x (dnI ex e)) true)) (dn1 ex e), (decide (shrW x (dnI ex e)).ok, true), (bitI x (dn1 ex e) == 0, false), lok x (dn1 ex e), (dnI ex e == 0, false), lok x (dnI ex e), (shrL x (dnI ex e), true)] := by
  cases d <;> exact ⟨by kernel_rfl, by kernel_rfl, by kernel_rfl, by kernel_rfl⟩
def cutT (x : W4) (b : Bool) (d : Nat) : Value := .tuple #[vW (ofN (tw x b / 2 ^ (d + 1))), .int .i64 (restC (tw x b % 2 ^ (d + 1)) (2 ^ (d + 1)))]
theorem lok_ok {x : W4} {n : Int} (h : x.ok) (h0 : -9223372036854775808 ≤ n) (h1 : n ≤ 9223372036854775807) : decide (x.ok ∧ -9223372036854775808 ≤ n ∧ n ≤ 9223372036854775807) = true := decide_eq_true ⟨h, h0, h1⟩
theorem cut_calls (n b : Bool) (x : W4) (ex e : Int) (hx : x.ok) (h1 : -4000 ≤ ex) (h2 : ex ≤ e) (h3 : e ≤ 4000) (w : World) : Calls Tryz.prog 77 #[vN n ex x b, .int .i64 e] w fun r w' => r = .returned (cutT x b (e - ex).toNat) ∧ Tidy w w' := by
  obtain ⟨d, hd⟩ : ∃ d : Nat, e - ex = (d : Int) := ⟨(e - ex).toNat, by omega⟩
  have e1 : dnI ex e = (d : Int) := by unfold dnI; rw [wrapI' ⟨by omega, by omega⟩, hd]
  have e2 : dn1 ex e = (d : Int) - 1 := by
    unfold dn1
    rw [wrapI' (n := e - ex) ⟨by omega, by omega⟩, hd, wrapI' ⟨by omega, by omega⟩]
  have eV : ∀ c, c = restC (tw x b % 2 ^ (d + 1)) (2 ^ (d + 1)) → ctV x ex e c = cutT x b (e - ex).toNat := fun c hc => by
    unfold ctV cutT
    rw [e1, shrW_nat hx (by omega), hd, Int.toNat_natCast, tw_div, hc]
  have k1 : decide (x.ok ∧ -9223372036854775808 ≤ dnI ex e ∧ dnI ex e ≤ 9223372036854775807) = true := lok_ok hx (by omega) (by omega)
  have k2 : decide (x.ok ∧ -9223372036854775808 ≤ dn1 ex e ∧ dn1 ex e ≤ 9223372036854775807) = true := lok_ok hx (by omega) (by omega)
  have kl : shrL x (dnI ex e) = decide (x.nat % 2 ^ d ≠ 0) := by rw [e1, shrL_nat hx (by omega), Int.toNat_natCast]
  have hv : ([vN n ex x b, .int .i64 e].all (lt 0)) = true := rfl
  by_cases hl : x.nat % 2 ^ d = 0
  · have kf : shrL x (dnI ex e) = false := by rw [kl]; simp [hl]
    cases b
    · rw [← eV 0 (by rw [rc_none hl])]
      exact fits_calls (tabY_ok conH_ok) (ct0 n x ex e) (okCons k1 (okL1 kf)) hv (by rfl) w
    · cases d with
      | zero =>
        rw [← eV 2 (by rw [rc_zero])]
        exact fits_calls (tabY_ok conH_ok) (ct1 n x ex e) (okCons (by rw [e1]; rfl) (okCons k1 (okL1 kf))) hv (by rfl) w
      | succ j =>
        have k0 : (dnI ex e == 0) = false := by rw [e1]; simp; omega
        have e3 : dn1 ex e = (j : Int) := by rw [e2]; omega
        have kb : bitI x (dn1 ex e) = ((x.nat / 2 ^ j % 2 : Nat) : Int) := by rw [e3, bitI_nat hx (by omega), Int.toNat_natCast]
        by_cases hb : x.nat / 2 ^ j % 2 = 0
        · rw [← eV 1 (by rw [rc_below hb (.inr rfl)])]
          exact fits_calls (tabY_ok conH_ok) (ct2 n x ex e true) (okCons (by rw [kb, hb]; rfl) (okCons k2 (okCons k0 (okCons k1 (okL1 kf))))) hv (by rfl) w
        · have hb' : x.nat / 2 ^ j % 2 = 1 := by omega
          rw [← eV 3 (by rw [rc_above hb' (.inr rfl)])]
          exact fits_calls (tabY_ok conH_ok) (ct2 n x ex e false) (okCons (by rw [kb, hb']; rfl) (okCons k2 (okCons k0 (okCons k1 (okL1 kf))))) hv (by rfl) w
  · have kf : shrL x (dnI ex e) = true := by rw [kl]; simp [hl]
    cases d with
    | zero => exact absurd (by simp [Nat.mod_one]) hl
    | succ j =>
      have k0 : (dnI ex e == 0) = false := by rw [e1]; simp; omega
      have e3 : dn1 ex e = (j : Int) := by rw [e2]; omega
      have kb : bitI x (dn1 ex e) = ((x.nat / 2 ^ j % 2 : Nat) : Int) := by rw [e3, bitI_nat hx (by omega), Int.toNat_natCast]
      by_cases hb : x.nat / 2 ^ j % 2 = 0
      · rw [← eV 1 (by rw [rc_below hb (.inl hl)])]
        exact fits_calls (tabY_ok conH_ok) (ct4 n b x ex e) (okCons (by rw [kb, hb]; rfl) (okCons k2 (okCons k0 (okCons k1 (okL1 kf))))) hv (by rfl) w
      · have hb' : x.nat / 2 ^ j % 2 = 1 := by omega
        cases b
        · have hs : shrW x (dnI ex e) = ofN (x.nat / 2 ^ (j + 1)) := by rw [e1, shrW_nat hx (by omega), Int.toNat_natCast]
          have hlt := W4.nat_lt hx
          have hle : x.nat / 2 ^ (j + 1) ≤ x.nat := Nat.div_le_self _ _
          have hle2 : 2 * (x.nat / 2 ^ (j + 1)) ≤ x.nat := by
            have := Nat.div_mul_le_self x.nat (2 ^ (j + 1))
            have hp : 0 < 2 ^ j := Nat.pow_pos (by omega)
            have h9 : 2 * (x.nat / 2 ^ (j + 1)) ≤ x.nat / 2 ^ (j + 1) * 2 ^ (j + 1) := by
              rw [Nat.mul_comm 2, Nat.pow_succ]
              exact Nat.mul_le_mul_left _ (by omega)
            omega
          have ht : tw (shrW x (dnI ex e)) true = 2 * (x.nat / 2 ^ (j + 1)) + 1 := by
            unfold tw
            rw [hs, ofN_nat (by omega)]
          have hk : bkW x ex e = ofN ((2 * (x.nat / 2 ^ (j + 1)) + 1) * 2 ^ j) := by
            unfold bkW
            have e256 : (2 : Nat) ^ 256 = 115792089237316195423570985008687907853269984665640564039457584007913129639936 := rfl
            rw [ht, e3, shlW_nat (ofN_ok _) (by omega), Int.toNat_natCast, ofN_nat (by omega)]
          have kq : eqW x (bkW x ex e) = decide (x.nat % 2 ^ j = 0) := by rw [hk, back_iff hx hb']
          have kok : decide ((ofN (tw (shrW x (dnI ex e)) true)).ok ∧ -9223372036854775808 ≤ dn1 ex e ∧ dn1 ex e ≤ 9223372036854775807) = true := lok_ok (ofN_ok _) (by omega) (by omega)
          have ks : decide (shrW x (dnI ex e)).ok = true := by rw [hs]; exact decide_eq_true (ofN_ok _)
          by_cases hz : x.nat % 2 ^ j = 0
          · rw [← eV 2 (by rw [rc_half hb' hz])]
            exact fits_calls (tabY_ok conH_ok) (ct6 n x ex e false) (okCons (by rw [kq, decide_eq_true hz]; rfl) (okCons kok (okCons ks (okCons (by rw [kb, hb']; rfl) (okCons k2 (okCons k0 (okCons k1 (okL1 kf)))))))) hv (by rfl) w
          · rw [← eV 3 (by rw [rc_above hb' (.inl hz)])]
            exact fits_calls (tabY_ok conH_ok) (ct6 n x ex e true) (okCons (by rw [kq, decide_eq_false hz]; rfl) (okCons kok (okCons ks (okCons (by rw [kb, hb']; rfl) (okCons k2 (okCons k0 (okCons k1 (okL1 kf)))))))) hv (by rfl) w
        · rw [← eV 3 (by rw [rc_above hb' (.inr rfl)])]
          exact fits_calls (tabY_ok conH_ok) (ct5 n x ex e) (okCons (by rw [kb, hb']; rfl) (okCons k2 (okCons k0 (okCons k1 (okL1 kf))))) hv (by rfl) w
/-- what cut asks of its numbers -/
def okCut (x : W4) (ex e : Int) : Bool := decide (x.ok ∧ -4000 ≤ ex ∧ ex ≤ e ∧ e ≤ 4000)
def gCut : Ans := fun vals s =>
  match vals with
  | [v, .int .i64 e] =>
    match n7 v with
    | some (_, ex, x, b) => some (cutT x b (e - ex).toNat, s, [(okCut x ex e, true)])
    | none => none
  | _ => none
theorem gCut_ok : AnsOk 77 gCut := by
  intro vals s v s' lg h hl w
  unfold gCut at h
  split at h
  · split at h
    · rename_i n ex x b hn
      cases h
      have h1 := of_decide_eq_true (hl _ (List.mem_singleton.2 rfl))
      rw [n7_spec hn]
      exact cut_calls n b x ex _ h1.1 h1.2.1 h1.2.2.1 h1.2.2.2 w
    · cases h
  · cases h
def conC : Con := alt 78 gUp (alt 77 gCut conH)
theorem conC_ok : ConOk conC := alt_ok Tryz.func78 rfl gUp_ok (alt_ok Tryz.func77 rfl gCut_ok conH_ok)
def lowW (x : W4) (b : Bool) (ex e : Int) : W4 := ofN (tw x b / 2 ^ ((e - ex).toNat + 1))
def rsI (x : W4) (b : Bool) (ex e : Int) : Int := restC (tw x b % 2 ^ ((e - ex).toNat + 1)) (2 ^ ((e - ex).toNat + 1))
def upX (m : Int) (n : Bool) (x : W4) (b : Bool) (ex e : Int) : Bool := upR m n (bitI (lowW x b ex e) 0 != 0) (rsI x b ex e)
def up1 (ex e : Int) : Int := IntKind.i64.wrap (IntKind.i64.wrap (ex - e) - 1)
def w1 : W4 := ⟨1, 0, 0, 0⟩
def w63 : W4 := ⟨0, 0, 0, 9223372036854775808⟩
def lAd (x : W4) : Bool × Bool := (decide (x.ok ∧ w1.ok), true)
def lBt (x : W4) : Bool × Bool := (decide (x.ok ∧ (-9223372036854775808 : Int) ≤ 0 ∧ (0 : Int) ≤ 9223372036854775807), true)
def lOv (x : W4) (d : Bool) : Bool × Bool := (decide (115792089237316195423570985008687907853269984665640564039457584007913129639936 ≤ x.val + w1.val), d)
def tmR (n : Bool) (e : Int) (x : W4) (l : Bool) : Value := .tuple #[vN n e x false, .bool l]
theorem tm0 (n b : Bool) (x : W4) (ex e m : Int) : Fits (reckon (tabOf Tryz.prog extY conC true) 300 40 [vN n ex x b, .int .i64 e, .int .i64 m] [cmp true]) (tmR n e (shlW (ofN (tw x b)) (up1 ex e)) false) [lok (ofN (tw x b)) (up1 ex e), (decide x.ok, true), (decide (e < ex), true)] := ⟨by kernel_rfl, by kernel_rfl, by kernel_rfl, by kernel_rfl⟩
theorem tm1 (n b : Bool) (x : W4) (ex e m : Int) : Fits (reckon (tabOf Tryz.prog extY conC true) 300 40 [vN n ex x b, .int .i64 e, .int .i64 m] [cmp false, tst false, tst false]) (tmR n e (lowW x b ex e) (rsI x b ex e != 0)) [(upX m n x b ex e, false), lBt (lowW x b ex e), (okCut x ex e, true), (false, false), (decide (e < ex), false)] := ⟨by kernel_rfl, by kernel_rfl, by kernel_rfl, by kernel_rfl⟩
theorem tm2 (n b : Bool) (x : W4) (ex e m : Int) : Fits (reckon (tabOf Tryz.prog extY conC true) 300 40 [vN n ex x b, .int .i64 e, .int .i64 m] [cmp false, tst false, tst true, tst false]) (tmR n e (W4.of ((lowW x b ex e).val + w1.val)) (rsI x b ex e != 0)) [lOv (lowW x b ex e) false, lAd (lowW x b ex e), lAd (lowW x b ex e), lAd (lowW x b ex e), (upX m n x b ex e, true), lBt (lowW x b ex e), (okCut x ex e, true), (false, false), (decide (e < ex), false)] := ⟨by kernel_rfl, by kernel_rfl, by kernel_rfl, by kernel_rfl⟩
theorem tm3 (n b : Bool) (x : W4) (ex e m : Int) : Fits (reckon (tabOf Tryz.prog extY conC true) 300 40 [vN n ex x b, .int .i64 e, .int .i64 m] [cmp false, tst false, tst true, tst true]) (tmR n (IntKind.i64.wrap (e + 1)) w63 (rsI x b ex e != 0)) [lOv (lowW x b ex e) true, lAd (lowW x b ex e), lAd (lowW x b ex e), lAd (lowW x b ex e), (upX m n x b ex e, true), lBt (lowW x b ex e), (okCut x ex e, true), (false, false), (decide (e < ex), false)] := ⟨by kernel_rfl, by kernel_rfl, by kernel_rfl, by kernel_rfl⟩
theorem ofN_nat' (n : Nat) : (ofN n).nat = n % 2 ^ 256 := by
  have e : (2 : Nat) ^ 256 = 115792089237316195423570985008687907853269984665640564039457584007913129639936 := rfl
  unfold W4.nat ofN
  rw [W4.val_of, e]
  omega
theorem low_lt {x : W4} (hx : x.ok) (b : Bool) (d : Nat) : tw x b / 2 ^ (d + 1) < 2 ^ 256 := by
  rw [tw_div]
  exact Nat.lt_of_le_of_lt (Nat.div_le_self _ _) (W4.nat_lt hx)
theorem upX_eq {m : Int} {n : Bool} {x : W4} {b : Bool} {ex e : Int} (hx : x.ok) : upX m n x b ex e = upR m n (odd (tw x b / 2 ^ ((e - ex).toNat + 1))) (rsI x b ex e) := by
  unfold upX lowW
  congr 1
  rw [bitI_nat (ofN_ok _) (by omega), ofN_nat (low_lt hx _ _)]
  unfold odd
  generalize tw x b / 2 ^ ((e - ex).toNat + 1) = q
  have e0 : q / 2 ^ (0 : Int).toNat % 2 = q % 2 := by simp
  rw [e0, Bool.eq_iff_iff]
  simp only [bne_iff_ne, ne_eq, decide_eq_true_eq]
  omega
theorem toQ_down {m : Int} {n : Bool} {T : Nat} {ex e : Int} (h : ex ≤ e) : toQ m n T (ex - 1) e = rq m n T ((e - ex).toNat + 1) := by
  unfold toQ
  rw [if_neg (by omega)]
  congr 1
  omega
theorem toL_down {T : Nat} {ex e : Int} (h : ex ≤ e) : toL T (ex - 1) e = decide (T % 2 ^ ((e - ex).toNat + 1) ≠ 0) := by
  unfold toL
  rw [if_neg (by omega), show (e - (ex - 1)).toNat = (e - ex).toNat + 1 by omega]
theorem rs_ne {x : W4} {b : Bool} {ex e : Int} (h : ex ≤ e) : (rsI x b ex e != 0) = toL (tw x b) (ex - 1) e := by
  rw [toL_down h, Bool.eq_iff_iff]
  simp only [bne_iff_ne, ne_eq, decide_eq_true_eq]
  unfold rsI
  rw [restC_iff]
theorem tm_calls (n b : Bool) (x : W4) (ex e m : Int) (hx : x.ok) (h1 : -4000 ≤ ex) (h1' : ex ≤ 4000) (h2 : -4000 ≤ e) (h3 : e ≤ 4000) (hq : toQ m n (tw x b) (ex - 1) e < 2 ^ 256) (w : World) : Calls Tryz.prog 40 #[vN n ex x b, .int .i64 e, .int .i64 m] w fun r w' => r = .returned (tmR n e (ofN (toQ m n (tw x b) (ex - 1) e)) (toL (tw x b) (ex - 1) e)) ∧ Tidy w w' := by
  have hv : ([vN n ex x b, .int .i64 e, .int .i64 m].all (lt 0)) = true := rfl
  by_cases hlt : e < ex
  · have e1 : up1 ex e = ex - e - 1 := by unfold up1; rw [wrapI' (n := ex - e) ⟨by omega, by omega⟩, wrapI' ⟨by omega, by omega⟩]
    have h := fits_calls (tabY_ok conC_ok) (tm0 n b x ex e m) (okCons (lok_ok (ofN_ok _) (by omega) (by omega)) (okCons (decide_eq_true hx) (okL1 (decide_eq_true hlt)))) hv (by rfl) w
    rw [e1, shlW_nat (ofN_ok _) (by omega), ofN_nat', ofN_mul_mod] at h
    unfold toQ toL
    rw [if_pos (by omega), if_pos (by omega), show (ex - 1 - e).toNat = (ex - e - 1).toNat by omega]
    exact h
  · have hle : ex ≤ e := by omega
    have kc : okCut x ex e = true := decide_eq_true ⟨hx, h1, hle, h3⟩
    have kb : (decide ((lowW x b ex e).ok ∧ (-9223372036854775808 : Int) ≤ 0 ∧ (0 : Int) ≤ 9223372036854775807)) = true := decide_eq_true ⟨ofN_ok _, by omega, by omega⟩
    have kl : decide (e < ex) = false := decide_eq_false hlt
    have ka : decide ((lowW x b ex e).ok ∧ w1.ok) = true := decide_eq_true ⟨ofN_ok _, W4.ok_of 1⟩
    rw [toQ_down hle] at hq ⊢
    rw [← rs_ne hle]
    have hu := upX_eq (m := m) (n := n) (b := b) (ex := ex) (e := e) hx
    unfold rq at hq ⊢
    by_cases hup : upX m n x b ex e = true
    · rw [hu] at hup
      unfold rsI at hup
      rw [if_pos hup] at hq ⊢
      have hval : (lowW x b ex e).val = ((tw x b / 2 ^ ((e - ex).toNat + 1) : Nat) : Int) := by
        unfold lowW
        rw [W4.nat_val (ofN_ok _), ofN_nat (low_lt hx _ _)]
      have e256 : (2 : Nat) ^ 256 = 115792089237316195423570985008687907853269984665640564039457584007913129639936 := rfl
      have hw1 : w1.val = 1 := rfl
      have ko : decide (115792089237316195423570985008687907853269984665640564039457584007913129639936 ≤ (lowW x b ex e).val + w1.val) = false := decide_eq_false (by rw [hval, hw1]; omega)
      have h := fits_calls (tabY_ok conC_ok) (tm2 n b x ex e m) (okCons ko (okCons ka (okCons ka (okCons ka (okCons (by rw [hu]; exact hup) (okCons kb (okCons kc (okCons rfl (okL1 kl))))))))) hv (by rfl) w
      rw [hval, hw1] at h
      exact h
    · rw [Bool.not_eq_true] at hup
      have h := fits_calls (tabY_ok conC_ok) (tm1 n b x ex e m) (okCons hup (okCons kb (okCons kc (okCons rfl (okL1 kl))))) hv (by rfl) w
      rw [hu] at hup
      unfold rsI at hup
      rw [hup]
      exact h
theorem tm_over (n b : Bool) (x : W4) (ex e m : Int) (hx : x.ok) (h1 : -4000 ≤ ex) (hle : ex ≤ e) (h3 : e ≤ 4000) (hq : ¬ toQ m n (tw x b) (ex - 1) e < 2 ^ 256) (w : World) : Calls Tryz.prog 40 #[vN n ex x b, .int .i64 e, .int .i64 m] w fun r w' => r = .returned (tmR n (e + 1) w63 (toL (tw x b) (ex - 1) e)) ∧ Tidy w w' := by
  have hv : ([vN n ex x b, .int .i64 e, .int .i64 m].all (lt 0)) = true := rfl
  have hlt : ¬ e < ex := by omega
  have kc : okCut x ex e = true := decide_eq_true ⟨hx, h1, hle, h3⟩
  have kb : (decide ((lowW x b ex e).ok ∧ (-9223372036854775808 : Int) ≤ 0 ∧ (0 : Int) ≤ 9223372036854775807)) = true := decide_eq_true ⟨ofN_ok _, by omega, by omega⟩
  have kl : decide (e < ex) = false := decide_eq_false hlt
  have ka : decide ((lowW x b ex e).ok ∧ w1.ok) = true := decide_eq_true ⟨ofN_ok _, W4.ok_of 1⟩
  rw [toQ_down hle] at hq
  rw [← rs_ne hle]
  have hu := upX_eq (m := m) (n := n) (b := b) (ex := ex) (e := e) hx
  have hlw := low_lt hx b (e - ex).toNat
  unfold rq at hq
  by_cases hup : upX m n x b ex e = true
  · have hup' := hup
    rw [hu] at hup
    unfold rsI at hup
    rw [if_pos hup] at hq
    have hval : (lowW x b ex e).val = ((tw x b / 2 ^ ((e - ex).toNat + 1) : Nat) : Int) := by
      unfold lowW
      rw [W4.nat_val (ofN_ok _), ofN_nat (low_lt hx _ _)]
    have e256 : (2 : Nat) ^ 256 = 115792089237316195423570985008687907853269984665640564039457584007913129639936 := rfl
    have hw1 : w1.val = 1 := rfl
    have ko : decide (115792089237316195423570985008687907853269984665640564039457584007913129639936 ≤ (lowW x b ex e).val + w1.val) = true := decide_eq_true (by rw [hval, hw1]; omega)
    have h := fits_calls (tabY_ok conC_ok) (tm3 n b x ex e m) (okCons ko (okCons ka (okCons ka (okCons ka (okCons hup' (okCons kb (okCons kc (okCons rfl (okL1 kl))))))))) hv (by rfl) w
    rw [wrapI' ⟨by omega, by omega⟩] at h
    exact h
  · rw [hu] at hup
    unfold rsI at hup
    rw [if_neg hup] at hq
    omega
/-- what it asks; whether all bits fit is told ahead -/
def okTm (x : W4) (ex e : Int) : Bool := decide (x.ok ∧ -4000 ≤ ex ∧ ex ≤ 4000 ∧ -4000 ≤ e ∧ e ≤ 4000)
def gTm : Ans := fun vals s =>
  match vals with
  | [v, .int .i64 e, .int .i64 m] =>
    match n7 v, s with
    | some (n, ex, x, b), .inr (.inr (.inr (.inl true))) :: .inr (.inr (.inr (.inl d))) :: s' => some (tmR n e (ofN (toQ m n (tw x b) (ex - 1) e)) d, s', [(toL (tw x b) (ex - 1) e, d), (decide (toQ m n (tw x b) (ex - 1) e < 2 ^ 256), true), (okTm x ex e, true)])
    | some (n, ex, x, b), [.inr (.inr (.inr (.inl true)))] => some (tmR n e (ofN (toQ m n (tw x b) (ex - 1) e)) (toL (tw x b) (ex - 1) e), [], [(decide (toQ m n (tw x b) (ex - 1) e < 2 ^ 256), true), (okTm x ex e, true)])
    | some (n, ex, x, b), .inr (.inr (.inr (.inl false))) :: s' => some (tmR n (e + 1) w63 (toL (tw x b) (ex - 1) e), s', [(decide (toQ m n (tw x b) (ex - 1) e < 2 ^ 256), false), (decide (ex ≤ e), true), (okTm x ex e, true)])
    | _, _ => none
  | _ => none
theorem gTm_ok : AnsOk 40 gTm := by
  intro vals s v s' lg h hl w
  unfold gTm at h
  split at h
  · split at h
    · rename_i n ex x b d s2 hn
      cases h
      rw [okCs, okCs, okCs] at hl
      have h1 := of_decide_eq_true hl.2.2.1
      rw [n7_spec hn, ← hl.1]
      exact tm_calls n b x ex _ _ h1.1 h1.2.1 h1.2.2.1 h1.2.2.2.1 h1.2.2.2.2 (of_decide_eq_true hl.2.1) w
    · rename_i n ex x b hn
      cases h
      rw [okCs, okCs] at hl
      have h1 := of_decide_eq_true hl.2.1
      rw [n7_spec hn]
      exact tm_calls n b x ex _ _ h1.1 h1.2.1 h1.2.2.1 h1.2.2.2.1 h1.2.2.2.2 (of_decide_eq_true hl.1) w
    · rename_i n ex x b s2 hn
      cases h
      rw [okCs, okCs, okCs] at hl
      have h1 := of_decide_eq_true hl.2.2.1
      rw [n7_spec hn]
      exact tm_over n b x ex _ _ h1.1 h1.2.1 (of_decide_eq_true hl.2.1) h1.2.2.2.2 (of_decide_eq_false hl.1) w
    · cases h
  · cases h
def conT : Con := alt 40 gTm conC
theorem conT_ok : ConOk conT := alt_ok Tryz.func40 rfl gTm_ok conC_ok
end Go.Proofs.YtgefjidphfdhdabGreatDoor
