/-
  TxJ, TxK, NumTy, TxL, PwD, ConVM, SlH, SlM, ConO1, NumTo
-/
import Derived.Test.YtjlponbdflkbjaaGreatDoorG11
import Derived.Test.YtjlponbdflkbjaaGreatDoorG10
import Derived.Test.YtjlponbdflkbjaaGreatDoorG07
import Derived.Test.YtjlponbdflkbjaaGreatDoorG08
import Derived.Test.YtjlponbdflkbjaaGreatDoorG09
namespace Go.Proofs.YtjlponbdflkbjaaGreatDoor.Na
open Go.KRun Go.Nt
set_option maxRecDepth 100000
/-- the digit at j -/
def dgF (s : ByteArray) (j : Nat) : Int := byT s j - 48
theorem dgF_bd {s : ByteArray} (h : allD s) {j : Nat} (hj : j < s.size) : (48 ≤ byT s j ∧ byT s j ≤ 57) ∧ 0 ≤ dgF s j ∧ dgF s j < 10 := by
  have h1 := h j hj
  unfold oddI at h1
  simp only [Bool.or_eq_false_iff, decide_eq_false_iff_not] at h1
  unfold dgF
  omega
theorem up_C {c b : Int} (hc : 0 ≤ c ∧ c < 1000000000) (hb : 48 ≤ b ∧ b ≤ 57) : upC c b = c * 10 + (b - 48) := by
  unfold upC
  simp [IntKind.wrap, IntKind.bits, IntKind.signed]
  omega
theorem up_T {c x : Int} (hc : 0 ≤ c ∧ c < 1000000000) (hx : 0 ≤ x ∧ x < 4294967296) : IntKind.u32.wrap (upT9 c x) = (c + x * 1000000000) % 4294967296 ∧ (upT9 c x).fdiv (2 ^ min (Int.toNat 32) 64) = (c + x * 1000000000) / 4294967296 := by
  have e : upT9 c x = c + x * 1000000000 := by
    unfold upT9
    simp [IntKind.wrap, IntKind.bits, IntKind.signed]
    omega
  have e2 : ((2 : Int) ^ min (Int.toNat 32) 64) = 4294967296 := rfl
  rw [e, e2, Int.fdiv_eq_ediv_of_nonneg _ (by omega)]
  refine ⟨?_, rfl⟩
  simp [IntKind.wrap, IntKind.bits, IntKind.signed]
theorem pw10 {k : Nat} (h : k ≤ 9) : (10 : Nat) ^ k ≤ 1000000000 := by
  have := Nat.pow_le_pow_right (show 0 < 10 by omega) h
  exact this
theorem pp_l1 {w : Value} {s : ByteArray} (hs : allD s) (h9 : s.size ≤ 9) (h : Hp) (g : Nat → Value) (sc : List Dec) :
    Runs (tabOf Tryz.prog extY conN true) (.block 0 (.loop (uL1 Tryz.f111))) (u1F w s 0 undef 0 ++ tl 39 g, h, sc) fun e z => e = none ∧ ∃ (i : Value) (k : Int) (g : Nat → Value), z.1 = u1F w s ((rdV10 (dgF s) s.size : Nat) : Int) i k ++ tl 39 g ∧ z.2.1 = h := by
  have hT := tabY_ok conN_ok
  refine (Runs.forLoop (R := fun _ => False) (P := fun z => ∃ (i : Value) (k : Int) (g : Nat → Value), z.1 = u1F w s ((rdV10 (dgF s) s.size : Nat) : Int) i k ++ tl 39 g ∧ z.2.1 = h)
    (fun r z => ∃ (k : Nat) (i : Value) (g : Nat → Value), z.1 = u1F w s ((rdV10 (dgF s) k : Nat) : Int) i k ++ tl 39 g ∧ z.2.1 = h ∧ k ≤ s.size ∧ r = s.size - k)
    ?_ (n := s.size) ⟨0, undef, g, rfl, rfl, by omega, by omega⟩).mono fun e z hz => ?_
  · rintro r ⟨t, h', sc'⟩ ⟨k, i, g, ht, hh, hk, hr⟩
    simp only at ht hh
    subst ht hh
    by_cases hc : k < s.size
    · obtain ⟨b1, b2⟩ := dgF_bd hs hc
      have hlt := rdV10_lt (f := dgF s) k (fun j hj => (dgF_bd hs (show j < s.size by omega)).2)
      have hp := pw10 (show k ≤ 9 by omega)
      have eC := up_C (c := ((rdV10 (dgF s) k : Nat) : Int)) ⟨by omega, by omega⟩ b1
      have l1 : decide ((0 : Int) ≤ (k : Nat) ∧ ((k : Nat) : Int).toNat < s.data.toList.length) = true := decide_eq_true ⟨by omega, by rw [Int.toNat_natCast]; exact hc⟩
      refine (goesT_runs hT (u_g1 w s _ i (k : Nat) h' g) (okCons l1 (okL1 (decide_eq_true (by omega))))).mono fun e z he => ?_
      obtain ⟨rfl, ⟨g', z1⟩, z2⟩ := he
      refine ⟨s.size - (k + 1), by omega, k + 1, .int .i64 (k : Nat), g', ?_, z2, by omega, rfl⟩
      rw [z1, Int.toNat_natCast]
      have eb : (((s.data.toList.getD k 0).toNat : Nat) : Int) = byT s k := rfl
      rw [eb, eC, wrapI (by omega) (by omega)]
      congr 2
      simp only [rdV10]
      have : ((dgF s k).toNat : Int) = byT s k - 48 := by unfold dgF at *; omega
      omega
    · refine (goesT_runs hT (u_o1 w s _ i (k : Nat) h' g) (okL1 (decide_eq_false (by omega)))).mono fun e z he => ?_
      obtain ⟨rfl, ⟨g', z1⟩, z2⟩ := he
      rw [show k = s.size by omega] at z1
      exact ⟨rfl, i, _, g', z1, z2⟩
  · match e, hz with
    | none, hz => exact ⟨rfl, hz⟩
theorem pp_l2 {n C : Nat} {s : ByteArray} {P : Int} (hP : 0 ≤ P ∧ P < 1000000000) {L : List Int} (hL : wds L) (hn : L.length = n) (hN : n < 4611686018427387904) {Z : List Value} (i v x : Value) (g g' : Nat → Value) (sc : List Dec) :
    Runs (tabOf Tryz.prog extY conN true) (.block 2 (.loop (uL2 Tryz.f111))) (ml (u2A (sl 0 0 n C) s P i v x) 14 g (u2M (sl 0 0 n C) n 0) 25 g', hW1 (wU L ++ Z), sc) fun e z => e = none ∧ ∃ (i v x : Value) (j : Int) (g g' : Nat → Value), z.1 = ml (u2A (sl 0 0 n C) s ((vN L * 1000000000 + P) / 4294967296 ^ n) i v x) 14 g (u2M (sl 0 0 n C) n j) 25 g' ∧ z.2.1 = hW1 (wU (dg n (vN L * 1000000000 + P)) ++ Z) := by
  have hT := tabY_ok conN_ok
  refine (Runs.forLoop (R := fun _ => False) (P := fun z => ∃ (i v x : Value) (j : Int) (g g' : Nat → Value), z.1 = ml (u2A (sl 0 0 n C) s ((vN L * 1000000000 + P) / 4294967296 ^ n) i v x) 14 g (u2M (sl 0 0 n C) n j) 25 g' ∧ z.2.1 = hW1 (wU (dg n (vN L * 1000000000 + P)) ++ Z))
    (fun r z => ∃ (dx px : List Int) (c : Int) (i v x : Value) (g g' : Nat → Value), z.1 = ml (u2A (sl 0 0 n C) s c i v x) 14 g (u2M (sl 0 0 n C) n dx.length) 25 g' ∧ z.2.1 = hW1 (wU (dx ++ px) ++ Z) ∧ px.length = r ∧ dx.length + px.length = n ∧ wds dx ∧ wds px ∧ (0 ≤ c ∧ c < 1000000000) ∧ vN dx + 4294967296 ^ dx.length * (vN px * 1000000000 + c) = vN L * 1000000000 + P)
    ?_ (n := n) ⟨[], L, P, i, v, x, g, g', rfl, rfl, hn, by simpa using hn, (fun x hx => by cases hx), hL, hP, by simp [vN]⟩).mono fun e z hz => ?_
  · rintro r ⟨t, h', sc'⟩ ⟨dx, px, c, i, v, x0, g, g', ht, hh, hr, hl, wd1, wd2, hc, hv⟩
    simp only at ht hh
    subst ht hh
    match px, hr, hl, wd2, hv with
    | [], hr, hl, wd2, hv =>
      have hl' : dx.length = n := by simpa using hl
      refine (goesM_runs hT (u_o2 n C s c i v x0 (dx.length : Nat) _ g g') (okL1 (decide_eq_false (by omega)))).mono fun e z he => ?_
      obtain ⟨rfl, ⟨g1, g2, z1⟩, z2⟩ := he
      simp only [vN] at hv
      rw [Int.zero_mul, Int.zero_add] at hv
      have e5 := dg_mod dx.length (vN dx) c
      rw [hv, dg_vN dx wd1, hl'] at e5
      have hb := vN_bd dx wd1
      have e6 : (vN L * 1000000000 + P) / 4294967296 ^ n = c := by
        rw [← hv, ← hl', Int.add_mul_ediv_left _ _ (by have := pw_pos dx.length; omega), Int.ediv_eq_zero_of_lt hb.1 hb.2, Int.zero_add]
      rw [e6, e5]
      rw [List.append_nil] at z2
      exact ⟨rfl, i, v, x0, _, g1, g2, z1, z2⟩
    | x :: px, hr, hl, wd2, hv =>
      obtain ⟨wx, wd2⟩ := wds_tail wd2
      obtain ⟨t1, t2⟩ := up_T hc wx
      have hl' : dx.length < n := by simp at hl; omega
      have cS : (wU (dx ++ x :: px) ++ Z)[0 + dx.length]? = some (uu x) := by
        rw [Nat.zero_add, List.getElem?_append_left (by unfold wU; simp)]
        exact wU_get dx x px
      have l1 : decide (0 + ((dx.length : Nat) : Int).toNat * 1 < (wU (dx ++ x :: px) ++ Z).length) = true := decide_eq_true (by unfold wU; simp)
      have l2 : (inR (dx.length : Nat) n).1 = (inR (dx.length : Nat) n).2 := decide_eq_true (by omega)
      have l3 : (celR (wU (dx ++ x :: px) ++ Z) 0 (dx.length : Nat) x).1 = (celR (wU (dx ++ x :: px) ++ Z) 0 (dx.length : Nat) x).2 := cel_ok cS
      refine (goesM_runs hT (u_g2 n C s c i v x0 (dx.length : Nat) x _ g g') (okCons (by decide) (okCons l1 (okCons l2 (okCons l3 (okCons l2 (okL1 (decide_eq_true (by omega))))))))).mono fun e z he => ?_
      obtain ⟨rfl, ⟨g1, g2, z1⟩, z2⟩ := he
      rw [t2] at z1
      rw [t1] at z2
      refine ⟨px.length, by simp at hr; omega, dx ++ [(c + x * 1000000000) % 4294967296], px, (c + x * 1000000000) / 4294967296, i, .int .i64 (dx.length : Nat), uu x, g1, g2, ?_, ?_, rfl, by simp at hl ⊢; omega, wds_app wd1 (fun z hz => by rw [List.mem_singleton.1 hz]; omega), wd2, by omega, ?_⟩
      · rw [z1, wrapI (by omega) (by omega), List.length_append, List.length_singleton]
        rfl
      · rw [z2, Int.toNat_natCast, Nat.mul_one, Nat.zero_add, List.set_append_left _ _ (by unfold wU; simp), wU_set]
      · rw [vN_snoc, List.length_append, List.length_singleton, Int.pow_succ, ← hv]
        simp only [vN]
        generalize vN px = A
        generalize (4294967296 : Int) ^ dx.length = Q
        have e : (c + x * 1000000000) = 4294967296 * ((c + x * 1000000000) / 4294967296) + (c + x * 1000000000) % 4294967296 := by omega
        generalize (c + x * 1000000000) / 4294967296 = d at *
        generalize (c + x * 1000000000) % 4294967296 = m at *
        have e' : (x + 4294967296 * A) * 1000000000 + c = 4294967296 * d + m + 4294967296 * A * 1000000000 := by omega
        rw [e']
        have d1 : Q * (4294967296 * d + m + 4294967296 * A * 1000000000) = Q * 4294967296 * d + Q * m + Q * 4294967296 * (A * 1000000000) := by
          rw [Int.mul_add, Int.mul_add, ← Int.mul_assoc, Int.mul_assoc 4294967296 A, ← Int.mul_assoc Q]
        rw [d1, Int.mul_add]
        omega
  · match e, hz with
    | none, hz => exact ⟨rfl, hz⟩
/-- words times 10^9 and a piece: the words, and what is carried on -/
def ppT (L : List Int) (s : ByteArray) : Int := vN L * 1000000000 + ((rdV10 (dgF s) s.size : Nat) : Int)
theorem pp_runs {C : Nat} {s : ByteArray} (hs : allD s) (h9 : s.size ≤ 9) {L : List Int} (hL : wds L) (hN : L.length < 1073741824) {Z : List Value} :
    (ppT L s / 4294967296 ^ L.length = 0 → Runs (tabOf Tryz.prog extY conN true) (seqs (uP Tryz.f111) (.seq (.seq (uR2 Tryz.f111) (.block 0 (.loop (uL1 Tryz.f111)))) (.seq (.seq (uR7 Tryz.f111) (.block 2 (.loop (uL2 Tryz.f111)))) (uE Tryz.f111)))) ([sl 0 0 L.length C, .string s] ++ List.replicate 49 undef, hW1 (wU L ++ Z), []) fun e y => (e = none ∨ e = some none) ∧ resS Tryz.prog Tryz.f111 y.1 y.2.1 = some (sl 0 0 L.length C) ∧ y.2.1.cut 1 = hW1 (wU (dg L.length (ppT L s)) ++ Z)) ∧
    (ppT L s / 4294967296 ^ L.length ≠ 0 → L.length < C → smallC C = true → 0 < Z.length → Runs (tabOf Tryz.prog extY conN true) (seqs (uP Tryz.f111) (.seq (.seq (uR2 Tryz.f111) (.block 0 (.loop (uL1 Tryz.f111)))) (.seq (.seq (uR7 Tryz.f111) (.block 2 (.loop (uL2 Tryz.f111)))) (uE Tryz.f111)))) ([sl 0 0 L.length C, .string s] ++ List.replicate 49 undef, hW1 (wU L ++ Z), []) fun e y => (e = none ∨ e = some none) ∧ resS Tryz.prog Tryz.f111 y.1 y.2.1 = some (sl 0 0 (L.length + 1) C) ∧ y.2.1.cut 1 = hW1 (wU (dg L.length (ppT L s)) ++ [uu (ppT L s / 4294967296 ^ L.length)] ++ Z.drop 1)) := by
  have hT := tabY_ok conN_ok
  have hlt := rdV10_lt (f := dgF s) s.size (fun j hj => (dgF_bd hs hj).2)
  have hp := pw10 h9
  have hP : (0 : Int) ≤ ((rdV10 (dgF s) s.size : Nat) : Int) ∧ ((rdV10 (dgF s) s.size : Nat) : Int) < 1000000000 := by omega
  have key : ∀ {Q : Ex → Lf → Prop}, (∀ (i v x : Value) (j : Int) (g g' : Nat → Value) (sc : List Dec), Runs (tabOf Tryz.prog extY conN true) (uE Tryz.f111) (ml (u2A (sl 0 0 L.length C) s (ppT L s / 4294967296 ^ L.length) i v x) 14 g (u2M (sl 0 0 L.length C) L.length j) 25 g', hW1 (wU (dg L.length (ppT L s)) ++ Z), sc) Q) → Runs (tabOf Tryz.prog extY conN true) (seqs (uP Tryz.f111) (.seq (.seq (uR2 Tryz.f111) (.block 0 (.loop (uL1 Tryz.f111)))) (.seq (.seq (uR7 Tryz.f111) (.block 2 (.loop (uL2 Tryz.f111)))) (uE Tryz.f111)))) ([sl 0 0 L.length C, .string s] ++ List.replicate 49 undef, hW1 (wU L ++ Z), []) Q := by
    intro Q hQ
    refine goesT_list hT (u_pre (sl 0 0 L.length C) s _) okN9 fun g => ?_
    refine Runs.seq (P1 := fun e z => e = none ∧ ∃ (i : Value) (k : Int) (g : Nat → Value), z.1 = u1F (sl 0 0 L.length C) s ((rdV10 (dgF s) s.size : Nat) : Int) i k ++ tl 39 g ∧ z.2.1 = hW1 (wU L ++ Z)) ?_ ?_ (fun e y he => by cases he.1)
    · refine Runs.seq (goesT_runs hT (u_r2 (sl 0 0 L.length C) s _ g) okN9) ?_ (fun e y he => by cases he.1)
      rintro ⟨t, hh, sc⟩ ⟨_, ⟨g', e1⟩, e2⟩
      simp only at e1 e2
      subst e1 e2
      exact pp_l1 hs h9 _ g' sc
    · rintro ⟨t, hh, sc⟩ ⟨_, i, k, g', e1, e2⟩
      simp only at e1 e2
      subst e1 e2
      refine Runs.seq (P1 := fun e z => e = none ∧ ∃ (i v x : Value) (j : Int) (g g' : Nat → Value), z.1 = ml (u2A (sl 0 0 L.length C) s (ppT L s / 4294967296 ^ L.length) i v x) 14 g (u2M (sl 0 0 L.length C) L.length j) 25 g' ∧ z.2.1 = hW1 (wU (dg L.length (ppT L s)) ++ Z)) ?_ ?_ (fun e y he => by cases he.1)
      · refine Runs.seq (goesM_runs hT (u_r7 L.length C s _ i k _ g') okN9) ?_ (fun e y he => by cases he.1)
        rintro ⟨t, hh, sc⟩ ⟨_, ⟨g1, g2, e1⟩, e2⟩
        simp only at e1 e2
        subst e1 e2
        exact pp_l2 hP hL rfl (by omega) _ _ _ g1 g2 sc
      · rintro ⟨t, hh, sc⟩ ⟨_, i, v, x, j, g1, g2, e1, e2⟩
        simp only at e1 e2
        subst e1 e2
        exact hQ i v x j g1 g2 sc
  refine ⟨fun hz => key fun i v x j g g' sc => ?_, fun hz hC hsm hZ => key fun i v x j g g' sc => ?_⟩
  · refine (goesT_runs hT (u_e0 L.length C s _ i v x j _ g g') (okL1 (by rw [hz]; rfl))).mono fun e z he => ?_
    obtain ⟨rfl, ⟨g1, z1⟩, z2⟩ := he
    exact ⟨.inr rfl, by rw [z1, z2]; rfl, by rw [z2]; rfl⟩
  · have hQ := pw_pos L.length
    have hvb := vN_bd L hL
    have hTb : 0 ≤ ppT L s / 4294967296 ^ L.length ∧ ppT L s / 4294967296 ^ L.length < 4294967296 := by
      have h0 : 0 ≤ ppT L s := by unfold ppT; omega
      have h1 : ppT L s < 4294967296 * 4294967296 ^ L.length := by unfold ppT; omega
      exact ⟨Int.ediv_nonneg h0 (by omega), Int.ediv_lt_of_lt_mul (by omega) h1⟩
    have ew : IntKind.u32.wrap (ppT L s / 4294967296 ^ L.length) = ppT L s / 4294967296 ^ L.length := by
      generalize ppT L s / 4294967296 ^ L.length = y at *
      simp [IntKind.wrap, IntKind.bits, IntKind.signed]
      omega
    have hlen : (wU (dg L.length (ppT L s))).length = L.length := by unfold wU; simp [dg_len]
    have l1 : appChx tU (wU (dg L.length (ppT L s)) ++ Z, tU) ([uu (IntKind.u32.wrap (ppT L s / 4294967296 ^ L.length))], tU) L.length C 0 1 = true := by
      unfold appChx
      simp only [Bool.and_eq_true, Bool.not_eq_true']
      refine ⟨⟨⟨⟨⟨⟨⟨⟨⟨⟨Nat.ble_eq_true_of_le (by rw [List.length_append, hlen]; omega), Nat.ble_eq_true_of_le (by omega)⟩, by kernel_rfl⟩, hsm⟩, Nat.ble_eq_true_of_le (by omega)⟩, by kernel_rfl⟩, by kernel_rfl⟩, by kernel_rfl⟩, by rfl⟩, by rfl⟩, by rfl⟩
    refine (goesT_runs hT (u_e1 L.length C s _ i v x j _ g g') (okCons l1 (okL1 (by simpa using hz)))).mono fun e z he => ?_
    obtain ⟨rfl, ⟨g1, z1⟩, z2⟩ := he
    have e1 : (wU (dg L.length (ppT L s)) ++ Z).take L.length = wU (dg L.length (ppT L s)) := List.take_left' hlen
    have e2 : (wU (dg L.length (ppT L s)) ++ Z).drop (L.length + 1) = Z.drop 1 := by
      rw [← List.drop_drop, List.drop_left' hlen]
    rw [e1, e2, ew] at z2
    exact ⟨.inr rfl, by rw [z1, z2]; rfl, by rw [z2]; rfl⟩
/-- a call that changes blocks and answers with a place in them -/
theorem hcalls_of_runsV {T : Tab} {f : Nat} {F : Func} {c : Code} (hF : T.P.funcs[f]? = some F) (hc : F.body = some c) {vals : List Value} {v : Value} {h h' : Hp} (hv : lt h.n v = true) (ht : h'.tight = true)
    (hr : Runs T c (vals ++ List.replicate (F.ntmps - vals.length) undef, h, []) fun e y => (e = none ∨ e = some none) ∧ resS T.P F y.1 y.2.1 = some v ∧ y.2.1.cut h.n = h') (m : Mp) (B : Nat) (w : World) (E : Emb m B h w) (hvals : ∀ v ∈ vals, lt h.n v = true) :
    Calls T.P f (vals.map (mv m)).toArray w fun e w' => ∃ m', e = .returned (mv m' v) ∧ Came m B h w v h' m' w' := by
  refine calls_of_wp hF hc ?_
  have R : Rel m B (vals ++ List.replicate (F.ntmps - vals.length) undef, h, []) { tmps := (vals.map (mv m)).toArray ++ Array.replicate (F.ntmps - (vals.map (mv m)).toArray.size) undef, defers := [] } w := by
    refine ⟨?_, rfl, E, ?_⟩
    · simp [mv_undef]
    · intro y hy
      rcases List.mem_append.1 hy with hy | hy
      · exact hvals y hy
      · rw [List.eq_of_mem_replicate hy]; simp [undef, lt]
  refine hr _ _ _ w R _ fun e y he a' w' hR => ?_
  obtain ⟨hex, hres, hcut⟩ := he
  obtain ⟨m', k1, k2, k3, k4⟩ := hR
  obtain ⟨r1, r2⟩ := resS_run k2.emb k2.wf hres
  rw [← k2.tmps, mv_agree k1 hv] at r1
  have k4' : h.n ≤ y.2.1.n := k4
  have C : Came m B h w v h' m w' := by
    subst hcut
    exact ⟨Agree.refl _ _, k2.emb.cut k1 k4' ht, k3, by simp [Hp.cut], by simpa [Hp.cut] using hv⟩
  have post : a'.defers = [] ∧ ∃ v', (results F a'.tmps).run T.P w' = .ok v' w' ∧ ∃ m', Ending.returned v' = .returned (mv m' v) ∧ Came m B h w v h' m' w' :=
    ⟨k2.dfr, _, r1, m, rfl, C⟩
  rcases hex with rfl | rfl <;> exact post
def ppQ (S : List Value) (n : Nat) (b : ByteArray) : Int := ppT (cutI S 0 n) b / 4294967296 ^ n
def ppLg (S : List Value) (t : TypeId) (n c : Nat) (b : ByteArray) : Log := [(Nat.beq t tU, true), (rowOk t S 0 n c, true), (decide (¬ ixV b ≥ 0), true), (Nat.ble b.size 9 && Nat.blt n 1073741824, true)]
def gPp : AnsH := fun vals h s =>
  match vals, h, s with
  | [.slice (some ⟨0, 0, none⟩) n c, .string b], ⟨1, [(S, t)]⟩, .inr (.inr (.inr (.inl d))) :: s' =>
    match d with
    | false => some (sl 0 0 n c, ⟨1, [(wU (dg n (ppT (cutI S 0 n) b)) ++ S.drop n, tU)]⟩, s', (decide (ppQ S n b = 0), true) :: ppLg S t n c b)
    | true => some (sl 0 0 (n + 1) c, ⟨1, [(wU (dg n (ppT (cutI S 0 n) b)) ++ [uu (ppQ S n b)] ++ S.drop (n + 1), tU)]⟩, s', (decide (ppQ S n b ≠ 0), true) :: (Nat.blt n c && Nat.blt n S.length, true) :: ppLg S t n c b)
  | _, _, _ => none
theorem ppLg_of {S : List Value} {t : TypeId} {n c : Nat} {b : ByteArray} (h : okLog (ppLg S t n c b)) : t = tU ∧ Row S 0 (cutI S 0 n) ∧ (cutI S 0 n).length = n ∧ smallC c = true ∧ (∀ v ∈ S, still v = true) ∧ allD b ∧ b.size ≤ 9 ∧ n < 1073741824 ∧ S = wU (cutI S 0 n) ++ S.drop n := by
  obtain ⟨l1, q⟩ := logB h
  obtain ⟨l2, q⟩ := logB q
  obtain ⟨l3, q⟩ := logB q
  obtain ⟨l4, _⟩ := logB q
  have l1 := Nat.eq_of_beq_eq_true l1
  obtain ⟨a1, a2, a3, a4, a5, a6, a7⟩ := row_of l2
  simp only [Bool.and_eq_true] at l4
  refine ⟨l1, a1, a2, a4, a7, (ix_digits b).1 (of_decide_eq_true l3), Nat.le_of_ble_eq_true l4.1, blt_iff.1 l4.2, ?_⟩
  have h1 := a1.cut
  rw [a2] at h1
  rw [← h1]
  unfold cutV
  simp
theorem gPp_ok : AnsHOk 111 gPp := by
  intro vals h s v h' s' lg hg hl m B w E hv
  unfold gPp at hg
  split at hg
  · rename_i n c b S t d s2
    split at hg
    · cases hg
      obtain ⟨l1, q⟩ := logB hl
      obtain ⟨rfl, a1, a2, a4, a7, hd, h9, hn, eS⟩ := ppLg_of q
      have hz := of_decide_eq_true l1
      have hst : ∀ v ∈ S.drop n, lt1 1 v = true := fun v hv => still_lt (by omega) (a7 v (List.mem_of_mem_drop hv))
      have r := (pp_runs (C := c) hd h9 (L := cutI S 0 n) a1.rng (by omega) (Z := S.drop n)).1 (by rw [a2]; exact hz)
      rw [a2, ← eS] at r
      have ht : (hW1 (wU (dg n (ppT (cutI S 0 n) b)) ++ S.drop n)).tight = true := by
        unfold Hp.tight hW1
        simp only [List.all_cons, List.all_nil, List.all_append, Bool.and_true, Bool.and_eq_true]
        exact ⟨wU_tight _ _, List.all_eq_true.2 hst⟩
      exact hcalls_of_runsV (T := tabOf Tryz.prog extY conN true) Tryz.func111 up_body9 (vals := [sl 0 0 n c, .string b]) (h := hW1 S) (by rfl) ht r m B w E hv
    · cases hg
      obtain ⟨l1, q⟩ := logB hl
      obtain ⟨l0, q⟩ := logB q
      obtain ⟨rfl, a1, a2, a4, a7, hd, h9, hn, eS⟩ := ppLg_of q
      simp only [Bool.and_eq_true] at l0
      have hc := blt_iff.1 l0.1
      have hS := blt_iff.1 l0.2
      have hz := of_decide_eq_true l1
      have r := (pp_runs (C := c) hd h9 (L := cutI S 0 n) a1.rng (by omega) (Z := S.drop n)).2 (by rw [a2]; exact hz) (by omega) a4 (by rw [List.length_drop]; omega)
      rw [a2, ← eS, List.drop_drop] at r
      have ht : (hW1 (wU (dg n (ppT (cutI S 0 n) b)) ++ [uu (ppQ S n b)] ++ S.drop (n + 1))).tight = true := by
        unfold Hp.tight hW1
        simp only [List.all_cons, List.all_nil, List.all_append, Bool.and_true, Bool.and_eq_true]
        exact ⟨⟨wU_tight _ _, rfl⟩, List.all_eq_true.2 fun v hv => still_lt (by omega) (a7 v (List.mem_of_mem_drop hv))⟩
      exact hcalls_of_runsV (T := tabOf Tryz.prog extY conN true) Tryz.func111 up_body9 (vals := [sl 0 0 n c, .string b]) (h := hW1 S) (by rfl) ht r m B w E hv
  · cases hg
/-! ### Parse -/
def conPr : Con := alt 110 gCf conN
theorem conPr_ok : ConOk conPr := alt_ok Tryz.func110 rfl gCf_ok conN_ok
def hcPr : Hc := altH 111 gPp (altH 112 gTrim hcN)
theorem hcPr_ok : HcOk hcPr := altH_ok Tryz.func111 rfl gPp_ok (altH_ok Tryz.func112 rfl gTrim_ok hcN_ok)
theorem tabPr : TabOk (tabH Tryz.prog extY conPr hcPr) := tabH_ok conPr_ok hcPr_ok
def qC9 (F : Func) : Nat → Code
  | 0 => cBody F
  | n + 1 => cSnd (qC9 F n)
def qP9 (F : Func) : List Code := [cFst (qC9 F 0), cFst (qC9 F 1), cFst (qC9 F 2), cFst (qC9 F 3), cFst (qC9 F 4)]
def qL9 (F : Func) : Code := cIn (cIn (cFst (qC9 F 5)))
def qE9 (F : Func) : Code := qC9 F 6
theorem pr_body : Tryz.f75.body = some (seqs (qP9 Tryz.f75) (.seq (.block 0 (.loop (qL9 Tryz.f75))) (qE9 Tryz.f75))) := by kernel_rfl
def capP (s : ByteArray) : Int := (IntKind.i64.wrap (IntKind.i64.wrap ((s.size : Int).tdiv 9) + 1))
def qF9 (s : Value) (w v : Value) : List Value := [s, undef, nilS, .nilIface, fO, w, v]
def eqN (s : ByteArray) : Bool := s == (⟨⟨[]⟩⟩ : ByteArray)
theorem pr_pre (s : ByteArray) : GoesT (evL (tabH Tryz.prog extY conPr hcPr) 100 (qP9 Tryz.f75) ([.string s] ++ List.replicate 40 undef, ⟨0, []⟩, [sam false, cmp false, cmp false, at_]) ⟨[], [], []⟩) 7 34 none (qF9 (.string s) (sl 0 0 0 (capP s).toNat) undef) (hW1 (List.replicate (capP s).toNat (.int .u32 0))) [(okMakeB 4 0 (capP s), true), (decide ((s.size : Int) > 20000), false), (decide (ixV s ≥ 0), false), (true, true), (eqN s, false)] := ⟨by kernel_rfl, by kernel_rfl, by kernel_rfl⟩
theorem pr_e (s : ByteArray) : Fits (reckon (tabH Tryz.prog extY conPr hcPr) 100 75 [.string s] [sam true]) (.tuple #[nilS, errV 3]) [(eqN s, true)] := ⟨by kernel_rfl, by kernel_rfl, by kernel_rfl, by kernel_rfl⟩
theorem pr_o (s : ByteArray) : Fits (reckon (tabH Tryz.prog extY conPr hcPr) 100 75 [.string s] [sam false, cmp true]) (.tuple #[nilS, errV 3]) [(decide (ixV s ≥ 0), true), (true, true), (eqN s, false)] := ⟨by kernel_rfl, by kernel_rfl, by kernel_rfl, by kernel_rfl⟩
def enP (l : List UInt8) : Int := IntKind.i64.wrap ((IntKind.i64.wrap ((l.length : Int) - 1)).tmod 9 + 1)
theorem pr_go (l : List UInt8) (d : Bool) (n C : Nat) (v : Value) (S : List Value) (g : Nat → Value) : GoesT (evC (tabH Tryz.prog extY conPr hcPr) 100 false (qL9 Tryz.f75) (qF9 (bS l) (sl 0 0 n C) v ++ tl 34 g, hW1 S, [sam true, sam true, cmp d, sam true]) ⟨[], [], []⟩) 7 34 none (qF9 (bS (l.drop (enP l).toNat)) (sl 0 0 (match d with | true => n + 1 | false => n) C) (.int .i64 (enP l))) (match d with | true => hW1 (wU (dg n (ppT (cutI S 0 n) ⟨⟨l.take (enP l).toNat⟩⟩)) ++ [uu (ppQ S n ⟨⟨l.take (enP l).toNat⟩⟩)] ++ S.drop (n + 1)) | false => hW1 (wU (dg n (ppT (cutI S 0 n) ⟨⟨l.take (enP l).toNat⟩⟩)) ++ S.drop n))
    ((decide (0 ≤ enP l ∧ enP l ≤ (l.length : Nat)), true) :: (match d with | true => (decide (ppQ S n ⟨⟨l.take (enP l).toNat⟩⟩ ≠ 0), true) :: (Nat.blt n C && Nat.blt n S.length, true) :: ppLg S tU n C ⟨⟨l.take (enP l).toNat⟩⟩ | false => (decide (ppQ S n ⟨⟨l.take (enP l).toNat⟩⟩ = 0), true) :: ppLg S tU n C ⟨⟨l.take (enP l).toNat⟩⟩) ++ [(decide (0 ≤ enP l ∧ enP l ≤ (l.length : Nat)), true), (!(eqN ⟨⟨l⟩⟩), true)]) := by
  cases d <;> exact ⟨by kernel_rfl, by kernel_rfl, by kernel_rfl⟩
theorem pr_out (w v : Value) (h : Hp) (g : Nat → Value) : GoesT (evC (tabH Tryz.prog extY conPr hcPr) 100 false (qL9 Tryz.f75) (qF9 (bS []) w v ++ tl 34 g, h, [sam false]) ⟨[], [], []⟩) 7 34 (some (some 0)) (qF9 (bS []) w v) h [(!(eqN ⟨⟨[]⟩⟩), false)] := ⟨by kernel_rfl, by kernel_rfl, by kernel_rfl⟩
theorem pr_end (s v : Value) (n C : Nat) (S : List Value) (g : Nat → Value) : GoesT (evC (tabH Tryz.prog extY conPr hcPr) 100 false (qE9 Tryz.f75) (qF9 s (sl 0 0 n C) v ++ tl 34 g, hW1 S, []) ⟨[], [], []⟩) 4 37 (some none) [s, undef, sl 0 0 (trimN (cutI S 0 n)) C, .nilIface] (hW1 S) [(rowOk tU S 0 n C, true)] := ⟨by kernel_rfl, by kernel_rfl, by kernel_rfl⟩
end Go.Proofs.YtjlponbdflkbjaaGreatDoor.Na
namespace Go.Nt
theorem dg_plus : ∀ (m k : Nat) (V : Int), dg (m + k) V = dg m V ++ dg k (V / 4294967296 ^ m)
  | 0, k, V => by simp [dg]
  | m + 1, k, V => by
    rw [show m + 1 + k = (m + k) + 1 by omega]
    show V % 4294967296 :: dg (m + k) (V / 4294967296) = (V % 4294967296 :: dg m (V / 4294967296)) ++ dg k (V / 4294967296 ^ (m + 1))
    rw [dg_plus m k, List.cons_append, Int.ediv_ediv_of_nonneg (by omega), pw]
theorem dg_drop (m k : Nat) (V : Int) : (dg (m + k) V).drop m = dg k (V / 4294967296 ^ m) := by
  rw [dg_plus, List.drop_left' (dg_len _ _)]
theorem dg_take (m k : Nat) (V : Int) : (dg (m + k) V).take m = dg m V := by
  rw [dg_plus, List.take_left' (dg_len _ _)]
theorem pw_nat (m : Nat) : (4294967296 : Int) ^ m = ((4294967296 ^ m : Nat) : Int) := by rw [Int.natCast_pow]; rfl
/-- a number's own digits, and how many -/
theorem dg_db (V : Nat) : dg (db 4294967296 V).length (V : Int) = db 4294967296 V := by
  have hw : wds (db 4294967296 V) := fun x hx => by
    have := db_dg (b := 4294967296) (by omega) V x hx
    exact ⟨this.1, by have := this.2; omega⟩
  have h := dg_vN (db 4294967296 V) hw
  rw [vN_vb hw, vb_db (by omega)] at h
  exact h
theorem lt_len (V : Nat) : V < 4294967296 ^ (db 4294967296 V).length := by
  have h := vb_lt (b := 4294967296) (by omega) (db 4294967296 V) (db_dg (by omega) V)
  rwa [vb_db (by omega)] at h
theorem len_iff {V k : Nat} : (db 4294967296 V).length ≤ k ↔ V < 4294967296 ^ k :=
  ⟨fun h => Nat.lt_of_lt_of_le (lt_len V) (Nat.pow_le_pow_right (by omega) h), fun h => db_len (by omega) k V h⟩
/-- the words behind a piece, where nothing is carried on, and where a word is -/
theorem pp_num {V P C : Nat} (hP : P < 1000000000) (hC : V * 1000000000 + P < 4294967296 ^ C) :
    let n := (db 4294967296 V).length
    let V' := V * 1000000000 + P
    (dg C (V : Int)).take n = db 4294967296 V ∧ n ≤ C ∧
    (((V' : Nat) : Int) / 4294967296 ^ n = 0 → dg n ((V' : Nat) : Int) ++ (dg C (V : Int)).drop n = dg C ((V' : Nat) : Int) ∧ (db 4294967296 V').length = n) ∧
    (((V' : Nat) : Int) / 4294967296 ^ n ≠ 0 → n < C ∧ dg n ((V' : Nat) : Int) ++ [((V' : Nat) : Int) / 4294967296 ^ n] ++ (dg C (V : Int)).drop (n + 1) = dg C ((V' : Nat) : Int) ∧ (db 4294967296 V').length = n + 1) := by
  intro n V'
  have hV := lt_len V
  have hVC : V < 4294967296 ^ C := Nat.lt_of_le_of_lt (by omega) hC
  have hn : n ≤ C := len_iff.2 hVC
  obtain ⟨k, hk⟩ : ∃ k, C = n + k := ⟨C - n, by omega⟩
  have hz : (V : Int) / 4294967296 ^ n = 0 := by
    rw [pw_nat]
    exact Int.ediv_eq_zero_of_lt (by omega) (by exact_mod_cast hV)
  have hq : ((V' : Nat) : Int) / 4294967296 ^ n = ((V' / 4294967296 ^ n : Nat) : Int) := by rw [pw_nat]; rfl
  have h0 : n = 0 → V = 0 := fun h => by
    rw [show (db 4294967296 V).length = 0 from h, Nat.pow_zero] at hV
    omega
  have ge : n ≤ (db 4294967296 V').length := by
    rcases Nat.lt_or_ge (db 4294967296 V').length n with h | h
    · exfalso
      have h1 : V' < 4294967296 ^ (n - 1) := len_iff.1 (by omega)
      have h2 : (db 4294967296 V).length ≤ n - 1 := len_iff.2 (by omega)
      have : n ≤ n - 1 := h2
      omega
    · exact h
  refine ⟨?_, hn, fun h => ?_, fun h => ?_⟩
  · rw [hk, dg_take]
    exact dg_db V
  · rw [hk, dg_drop, hz, dg_plus, h]
    refine ⟨rfl, ?_⟩
    rw [hq] at h
    have h1 : V' / 4294967296 ^ n = 0 := Int.ofNat.inj h
    have h2 : V' < 4294967296 ^ n := by
      rcases Nat.lt_or_ge V' (4294967296 ^ n) with h3 | h3
      · exact h3
      · have := Nat.div_pos h3 (Nat.pow_pos (by omega)); omega
    have := len_iff.2 h2
    omega
  · rw [hq] at h
    have hqp : 0 < V' / 4294967296 ^ n := Nat.pos_of_ne_zero fun h' => h (by rw [h']; rfl)
    have hge : 4294967296 ^ n ≤ V' := by
      rcases Nat.lt_or_ge V' (4294967296 ^ n) with h3 | h3
      · rw [Nat.div_eq_of_lt h3] at hqp; omega
      · exact h3
    have hlt : V' < 4294967296 ^ (n + 1) := by
      rw [Nat.pow_succ]
      have : V < 4294967296 ^ n := hV
      show V * 1000000000 + P < _
      omega
    have hnC : n < C := by
      rcases Nat.lt_or_ge n C with h3 | h3
      · exact h3
      · have : (4294967296 : Nat) ^ C ≤ 4294967296 ^ n := Nat.pow_le_pow_right (by omega) h3
        have hC' : V' < 4294967296 ^ C := hC
        omega
    obtain ⟨j, hj⟩ : ∃ j, k = j + 1 := ⟨k - 1, by omega⟩
    have hqB : V' / 4294967296 ^ n < 4294967296 := by
      rw [Nat.pow_succ] at hlt
      exact Nat.div_lt_of_lt_mul hlt
    refine ⟨hnC, ?_, ?_⟩
    · have hz1 : (V : Int) / 4294967296 ^ (n + 1) = 0 := by
        rw [pw_nat]
        have : V < 4294967296 ^ (n + 1) := Nat.lt_of_lt_of_le hV (Nat.pow_le_pow_right (by omega) (by omega))
        exact Int.ediv_eq_zero_of_lt (by omega) (by exact_mod_cast this)
      have hz2 : ((V' : Nat) : Int) / 4294967296 ^ (n + 1) = 0 := by
        rw [pw_nat]
        exact Int.ediv_eq_zero_of_lt (by omega) (by exact_mod_cast hlt)
      rw [hk, hj, show n + (j + 1) = (n + 1) + j by omega, dg_drop, hz1, dg_plus (n + 1) j, hz2, dg_plus n 1, hq]
      show dg n _ ++ [_] ++ dg j 0 = dg n _ ++ [((V' / 4294967296 ^ n : Nat) : Int) % 4294967296] ++ dg j 0
      rw [Int.emod_eq_of_lt (by omega) (by omega)]
    · have h1 := len_iff.2 hlt
      rcases Nat.lt_or_ge n (db 4294967296 V').length with h3 | h3
      · omega
      · have := len_iff.1 h3
        omega
theorem rdV10_congr {f g : Nat → Int} : ∀ k, (∀ j, j < k → f j = g j) → rdV10 f k = rdV10 g k
  | 0, _ => rfl
  | k + 1, h => by
    simp only [rdV10]
    rw [rdV10_congr k (fun j hj => h j (by omega)), h k (by omega)]
theorem ten_cap {m C : Nat} (h : m ≤ 9 * C) : (10 : Nat) ^ m ≤ 4294967296 ^ C := by
  have h1 : (10 : Nat) ^ m ≤ 10 ^ (9 * C) := Nat.pow_le_pow_right (by omega) h
  have h2 : (10 : Nat) ^ (9 * C) ≤ 4294967296 ^ C := by
    rw [Nat.pow_mul]
    exact Nat.pow_le_pow_left (by decide) C
  omega
end Go.Nt
namespace Go.Proofs.YtjlponbdflkbjaaGreatDoor.Na
open Go.KRun Go.Nt
set_option maxRecDepth 100000
def psN (s : ByteArray) : Nat := s.size / 9 + 1
def psV (s : ByteArray) : Nat := rdV10 (dgF s) s.size
theorem capP_eq {s : ByteArray} (h : s.size ≤ 20000) : capP s = (psN s : Nat) := by
  have e1 : IntKind.i64.wrap ((s.size : Int) / 9) = (s.size : Int) / 9 := wrapI (by omega) (by omega)
  unfold capP psN
  rw [Int.tdiv_eq_ediv_of_nonneg (by omega), e1, wrapI (by omega) (by omega)]
  omega
theorem enP_eq {l : List UInt8} (h0 : 0 < l.length) (h : l.length ≤ 20000) : enP l = (((l.length - 1) % 9 + 1 : Nat) : Int) := by
  have e1 : IntKind.i64.wrap ((l.length : Int) - 1) = (l.length : Int) - 1 := wrapI (by omega) (by omega)
  unfold enP
  rw [e1, Int.tmod_eq_emod_of_nonneg (by omega), wrapI (by omega) (by omega)]
  omega
theorem okApp {a b : Log} (h1 : okLog a) (h2 : okLog b) : okLog (a ++ b) := fun x hx => (List.mem_append.1 hx).elim (h1 x) (h2 x)
/-- the letters m to m + e -/
def pieceB (s : ByteArray) (m e : Nat) : ByteArray := ⟨⟨(s.data.toList.drop m).take e⟩⟩
theorem piece_size {s : ByteArray} {m e : Nat} (h : m + e ≤ s.size) : (pieceB s m e).size = e := by
  show ((s.data.toList.drop m).take e).length = e
  have : s.data.toList.length = s.size := rfl
  rw [List.length_take, List.length_drop]
  omega
theorem piece_at {s : ByteArray} {m e j : Nat} (hj : j < e) : byT (pieceB s m e) j = byT s (m + j) := by
  unfold byT pieceB
  have : ((s.data.toList.drop m).take e).getD j 0 = s.data.toList.getD (m + j) 0 := by
    simp only [List.getD, List.getElem?_take, List.getElem?_drop, if_pos hj]
  show ((((s.data.toList.drop m).take e).getD j 0).toNat : Int) = _
  rw [this]
def pInv9 (s : ByteArray) (r : Nat) (y : Lf) : Prop := ∃ (m : Nat) (v : Value) (g : Nat → Value), y.1 = qF9 (bS (s.data.toList.drop m)) (sl 0 0 (db 4294967296 (rdV10 (dgF s) m)).length (psN s)) v ++ tl 34 g ∧ y.2.1 = hW1 (wU (dg (psN s) ((rdV10 (dgF s) m : Nat) : Int))) ∧ m ≤ s.size ∧ (m = 0 ∨ (s.size - m) % 9 = 0) ∧ r = s.size - m
def pOut (s : ByteArray) (y : Lf) : Prop := ∃ (v : Value) (g : Nat → Value), y.1 = qF9 (bS []) (sl 0 0 (db 4294967296 (psV s)).length (psN s)) v ++ tl 34 g ∧ y.2.1 = hW1 (wU (dg (psN s) ((psV s : Nat) : Int)))
theorem p_round {s : ByteArray} (hs : allD s) (h2 : s.size ≤ 20000) (r : Nat) (y : Lf) (h : pInv9 s r y) :
    Runs (tabH Tryz.prog extY conPr hcPr) (qL9 Tryz.f75) y fun e z => match e with | none => ∃ r', r' < r ∧ pInv9 s r' z | some none => False | some (some id') => id' = 0 ∧ pOut s z := by
  obtain ⟨m, v, g, ht, hh, hm, hm9, hr⟩ := h
  obtain ⟨t, h', sc⟩ := y
  simp only at ht hh
  subst ht hh
  have hsz : s.data.toList.length = s.size := rfl
  by_cases hc : m < s.size
  · obtain ⟨l, hl⟩ : ∃ l, l = s.data.toList.drop m := ⟨_, rfl⟩
    have ll : l.length = s.size - m := by rw [hl, List.length_drop, hsz]
    have eE := enP_eq (l := l) (by omega) (by omega)
    obtain ⟨e, he⟩ : ∃ e : Nat, e = (l.length - 1) % 9 + 1 := ⟨_, rfl⟩
    rw [← he] at eE
    have e1 : m + e ≤ s.size := by omega
    have e9 : e ≤ 9 := by omega
    have hps := piece_size e1
    have eT : (enP l).toNat = e := by rw [eE, Int.toNat_natCast]
    have hdig : ∀ j, j < e → dgF (pieceB s m e) j = dgF s (m + j) := fun j hj => by unfold dgF; rw [piece_at hj]
    have hall : allD (pieceB s m e) := fun j hj => by
      rw [hps] at hj
      rw [piece_at hj]
      exact hs (m + j) (by omega)
    have eP : rdV10 (dgF (pieceB s m e)) (pieceB s m e).size = rdV10 (fun j => dgF s (m + j)) e := by
      rw [hps]
      exact rdV10_congr e hdig
    obtain ⟨V, hV⟩ : ∃ V, V = rdV10 (dgF s) m := ⟨_, rfl⟩
    obtain ⟨P, hP⟩ : ∃ P, P = rdV10 (fun j => dgF s (m + j)) e := ⟨_, rfl⟩
    have hadd := rdV10_add (f := dgF s) m e
    rw [← hV, ← hP] at hadd
    have hPlt : P < 10 ^ e := by
      rw [hP]
      exact rdV10_lt e fun j hj => (dgF_bd hs (show m + j < s.size by omega)).2
    have hP9 : P < 1000000000 := Nat.lt_of_lt_of_le hPlt (pw10 e9)
    have hVe : V * 10 ^ e = V * 1000000000 := by
      rcases hm9 with h0 | h9
      · have : V = 0 := by rw [hV, h0]; rfl
        rw [this, Nat.zero_mul, Nat.zero_mul]
      · have : e = 9 := by omega
        rw [this]
    rw [hVe] at hadd
    have hVlt : V * 1000000000 + P < 4294967296 ^ psN s := by
      rw [← hadd]
      have h3 := rdV10_lt (f := dgF s) (m + e) fun j hj => (dgF_bd hs (show j < s.size by omega)).2
      exact Nat.lt_of_lt_of_le h3 (ten_cap (by unfold psN; omega))
    obtain ⟨n1, n2, n3, n4⟩ := pp_num hP9 hVlt
    have hC : psN s < 10000 := by unfold psN; omega
    have hsm : smallC (psN s) = true := blt_iff.2 (by unfold dead; omega)
    have ec : cutI (wU (dg (psN s) (V : Int))) 0 (db 4294967296 V).length = db 4294967296 V := by rw [cutI_wT, n1]
    have eV : vN (db 4294967296 V) = (V : Int) := by rw [vN_vb (wds_db V), vb_db (by omega)]
    have hpT : ppT (cutI (wU (dg (psN s) (V : Int))) 0 (db 4294967296 V).length) (pieceB s m e) = ((V * 1000000000 + P : Nat) : Int) := by
      unfold ppT
      rw [ec, eV, eP, ← hP]
      omega
    have hpQ : ppQ (wU (dg (psN s) (V : Int))) (db 4294967296 V).length (pieceB s m e) = ((V * 1000000000 + P : Nat) : Int) / 4294967296 ^ (db 4294967296 V).length := by
      unfold ppQ
      rw [hpT]
    have hlog : okLog (ppLg (wU (dg (psN s) (V : Int))) tU (db 4294967296 V).length (psN s) (pieceB s m e)) := by
      refine okCons (Nat.beq_refl _) (okCons ?_ (okCons (decide_eq_true ((ix_digits _).2 hall)) (okL1 ?_)))
      · exact wU_rowAt (dg_wds _ _) (by rw [dg_len]; omega) n2 hsm
      · rw [hps, Nat.ble_eq_true_of_le e9, blt_iff.2 (by omega)]
        rfl
    have l1 : decide (0 ≤ enP l ∧ enP l ≤ (l.length : Nat)) = true := decide_eq_true ⟨by rw [eE]; omega, by rw [eE]; omega⟩
    have l2 : (!(eqN ⟨⟨l⟩⟩)) = true := by
      unfold eqN
      rw [bs_eq, decide_eq_false (by intro hn; rw [hn] at ll; simp at ll; omega)]
      rfl
    have hdr : l.drop e = s.data.toList.drop (m + e) := by rw [hl, List.drop_drop]
    have htk : (⟨⟨l.take e⟩⟩ : ByteArray) = pieceB s m e := by rw [hl]; rfl
    have hstep : ∀ z : Lf, (∃ g, z.1 = qF9 (bS (l.drop (enP l).toNat)) (sl 0 0 (db 4294967296 (V * 1000000000 + P)).length (psN s)) (.int .i64 (enP l)) ++ tl 34 g) → z.2.1 = hW1 (wU (dg (psN s) ((V * 1000000000 + P : Nat) : Int))) → ∃ r', r' < r ∧ pInv9 s r' z := fun z hz1 hz2 => by
      obtain ⟨g', hz1⟩ := hz1
      refine ⟨s.size - (m + e), by omega, m + e, .int .i64 (enP l), g', ?_, ?_, e1, .inr (by omega), rfl⟩
      · rw [hz1, eT, hdr, hadd]
      · rw [hz2, hadd]
    rw [← hV]
    rw [← hl]
    have hG := fun d => pr_go l d (db 4294967296 V).length (psN s) v (wU (dg (psN s) (V : Int))) g
    rw [eT, htk] at hG
    by_cases hq : ((V * 1000000000 + P : Nat) : Int) / 4294967296 ^ (db 4294967296 V).length = 0
    · obtain ⟨q1, q2⟩ := n3 hq
      have hG := hG false
      simp only [hpT] at hG
      have eM : wU (dg (db 4294967296 V).length ((V * 1000000000 + P : Nat) : Int)) ++ (wU (dg (psN s) (V : Int))).drop (db 4294967296 V).length = wU (dg (psN s) ((V * 1000000000 + P : Nat) : Int)) := by
        rw [← q1]
        unfold wU
        rw [List.map_append, List.map_drop]
      rw [eM] at hG
      refine (goesT_runs tabPr hG (okApp (okCons l1 (okCons (decide_eq_true (hpQ.trans hq)) hlog)) (okCons l1 (okL1 l2)))).mono fun e z he => ?_
      obtain ⟨rfl, hz1, hz2⟩ := he
      refine hstep z ?_ hz2
      rw [q2, eT]
      exact hz1
    · obtain ⟨q0, q1, q2⟩ := n4 hq
      have hG := hG true
      simp only [hpT, hpQ] at hG
      have eM : wU (dg (db 4294967296 V).length ((V * 1000000000 + P : Nat) : Int)) ++ [uu (((V * 1000000000 + P : Nat) : Int) / 4294967296 ^ (db 4294967296 V).length)] ++ (wU (dg (psN s) (V : Int))).drop ((db 4294967296 V).length + 1) = wU (dg (psN s) ((V * 1000000000 + P : Nat) : Int)) := by
        rw [← q1]
        unfold wU
        rw [List.map_append, List.map_append, List.map_drop]
        rfl
      rw [eM] at hG
      have l3 : (Nat.blt (db 4294967296 V).length (psN s) && Nat.blt (db 4294967296 V).length (wU (dg (psN s) (V : Int))).length) = true := by
        rw [blt_iff.2 q0, blt_iff.2 (by unfold wU; rw [List.length_map, dg_len]; exact q0)]
        rfl
      refine (goesT_runs tabPr hG (okApp (okCons l1 (okCons (decide_eq_true hq) (okCons l3 hlog))) (okCons l1 (okL1 l2)))).mono fun e z he => ?_
      obtain ⟨rfl, hz1, hz2⟩ := he
      refine hstep z ?_ hz2
      rw [q2, eT]
      exact hz1
  · have hms : m = s.size := by omega
    have hd : s.data.toList.drop m = [] := List.drop_eq_nil_of_le (by rw [hsz]; omega)
    rw [hd]
    refine (goesT_runs tabPr (pr_out _ v _ g) (okL1 rfl)).mono fun e z he => ?_
    obtain ⟨rfl, ⟨g', hz1⟩, hz2⟩ := he
    rw [hms] at hz1 hz2
    exact ⟨rfl, v, g', hz1, hz2⟩
theorem parse_runs {s : ByteArray} (h0 : 0 < s.size) (hs : allD s) (h2 : s.size ≤ 20000) :
    Runs (tabH Tryz.prog extY conPr hcPr) (seqs (qP9 Tryz.f75) (.seq (.block 0 (.loop (qL9 Tryz.f75))) (qE9 Tryz.f75))) ([.string s] ++ List.replicate 40 undef, ⟨0, []⟩, []) fun e z => (e = none ∨ e = some none) ∧ resS Tryz.prog Tryz.f75 z.1 z.2.1 = some (.tuple #[sl 0 0 (db 4294967296 (psV s)).length (psN s), .nilIface]) ∧ ∃ r, z.2.1.blk? 0 = some (wU (dg (psN s) ((psV s : Nat) : Int)) ++ r, tU) := by
  have hcp := capP_eq h2
  have hC : psN s < 10000 := by unfold psN; omega
  have eN : (capP s).toNat = psN s := by rw [hcp, Int.toNat_natCast]
  have hix : decide (ixV s ≥ 0) = false := decide_eq_false ((ix_digits s).2 hs)
  have hne : eqN s = false := by
    show ((⟨⟨s.data.toList⟩⟩ : ByteArray) == ⟨⟨[]⟩⟩) = false
    rw [bs_eq]
    refine decide_eq_false fun h => ?_
    have : s.size = 0 := by show s.data.toList.length = 0; rw [h]; rfl
    omega
  have hpre := pr_pre s
  rw [eN] at hpre
  have lm : okMakeB 4 0 (capP s) = true := by rw [hcp]; unfold okMakeB; exact decide_eq_true ⟨by omega, by omega, by omega, by omega⟩
  refine goesT_list tabPr hpre (okCons lm (okCons (decide_eq_false (by omega)) (okCons hix (okCons rfl (okL1 hne))))) fun g => ?_
  have z0 : ∀ n, wU (dg n 0) = List.replicate n (.int .u32 0) := by
    intro n
    induction n with
    | zero => rfl
    | succ n ih =>
      rw [List.replicate_succ, ← ih]
      rfl
  refine Runs.seq (P1 := fun e y => e = none ∧ pOut s y) ?_ ?_ (fun e y he => by cases he.1)
  · refine (Runs.forLoop (R := fun _ => False) (P := pOut s) (pInv9 s) (p_round hs h2) (n := s.size) ⟨0, undef, g, ?_, ?_, by omega, .inl rfl, rfl⟩).mono fun e z hz => ?_
    · rw [show rdV10 (dgF s) 0 = 0 from rfl, db_zero]
      rfl
    · show hW1 _ = _
      rw [show rdV10 (dgF s) 0 = 0 from rfl, show (((0 : Nat) : Nat) : Int) = 0 from rfl, z0]
    · match e, hz with
      | none, hz => exact ⟨rfl, hz⟩
  · rintro ⟨t, hh, sc⟩ ⟨_, v, g', e1, e2⟩
    simp only at e1 e2
    subst e1 e2
    have hlt : psV s < 4294967296 ^ psN s := Nat.lt_of_lt_of_le (rdV10_lt (f := dgF s) s.size fun j hj => (dgF_bd hs hj).2) (ten_cap (by unfold psN; omega))
    have hle := len_iff.2 hlt
    obtain ⟨k, hk⟩ : ∃ k, psN s = (db 4294967296 (psV s)).length + k := ⟨psN s - (db 4294967296 (psV s)).length, by omega⟩
    have ec : cutI (wU (dg (psN s) ((psV s : Nat) : Int))) 0 (db 4294967296 (psV s)).length = db 4294967296 (psV s) := by
      rw [cutI_wT, hk, dg_take]
      exact dg_db _
    have etr : trimN (cutI (wU (dg (psN s) ((psV s : Nat) : Int))) 0 (db 4294967296 (psV s)).length) = (db 4294967296 (psV s)).length := by
      rw [ec]
      exact (can_db (by omega) _).2
    have hsm : smallC (psN s) = true := blt_iff.2 (by unfold dead; omega)
    refine (goesT_runs tabPr (pr_end _ v _ _ _ g') (okL1 (wU_rowAt (dg_wds _ _) (by rw [dg_len]; omega) hle hsm))).mono fun e z he => ?_
    obtain ⟨rfl, ⟨g2, z1⟩, z2⟩ := he
    rw [etr] at z1
    refine ⟨.inr rfl, by rw [z1, z2]; rfl, [], by rw [z2, List.append_nil]; rfl⟩
/-- whether a text is digits -/
def okP (s : ByteArray) : Bool := decide (0 < s.size) && decide (¬ ixV s ≥ 0)
theorem okP_iff (s : ByteArray) : okP s = true ↔ 0 < s.size ∧ allD s := by
  unfold okP
  rw [Bool.and_eq_true, decide_eq_true_eq, decide_eq_true_eq, ix_digits]
def gPs : AnsH := fun vals h s =>
  match vals, s with
  | [.string b], .inr (.inr (.inr (.inl false))) :: s' => some (.tuple #[nilS, errV 3], h, s', [(okP b, false)])
  | [.string b], .inr (.inr (.inr (.inl true))) :: .inr (.inl V) :: s' => some (.tuple #[sl h.n 0 (db 4294967296 V.toNat).length (psN b), .nilIface], h.push (wU (dg (psN b) (V.toNat : Nat))) tU, s', [(decide (psV b = V.toNat), true), (okP b, true), (Nat.ble b.size 20000, true)])
  | _, _ => none
theorem rows0 : (⟨0, []⟩ : Hp).rows := ⟨rfl, fun b x hx => by have : b < 0 := Hp.blk_lt hx; omega⟩
theorem gPs_ok : AnsHOk 75 gPs := by
  intro vals h s v h' s' lg hg hl m B w E hv
  unfold gPs at hg
  split at hg
  · rename_i b s2
    cases hg
    have l1 := hl _ (List.mem_singleton.2 rfl)
    have hw : ∀ w, Calls Tryz.prog 75 #[.string b] w fun r w' => r = .returned (.tuple #[nilS, errV 3]) ∧ Tidy w w' := fun w => by
      by_cases h0 : b.data.toList = []
      · refine fits_calls tabPr (pr_e b) (okL1 ?_) (by rfl) (by rfl) w
        show ((⟨⟨b.data.toList⟩⟩ : ByteArray) == ⟨⟨[]⟩⟩) = true
        rw [bs_eq]
        exact decide_eq_true h0
      · have hne : eqN b = false := by
          show ((⟨⟨b.data.toList⟩⟩ : ByteArray) == ⟨⟨[]⟩⟩) = false
          rw [bs_eq]
          exact decide_eq_false h0
        have hsz : 0 < b.size := List.length_pos_iff.2 h0
        have hix : ixV b ≥ 0 := by
          rcases Classical.em (ixV b ≥ 0) with h1 | h1
          · exact h1
          · exfalso
            have : okP b = true := (okP_iff b).2 ⟨hsz, (ix_digits b).1 h1⟩
            rw [this] at l1
            cases l1
        exact fits_calls tabPr (pr_o b) (okCons (decide_eq_true hix) (okCons rfl (okL1 hne))) (by rfl) (by rfl) w
    refine (hw w).mono fun r w' hr => ?_
    obtain ⟨rfl, hc⟩ := hr
    obtain ⟨E', hb⟩ := clean_emb E hc
    exact ⟨m, by rw [mv_still (by rfl)], Agree.refl _ _, E', hb, Nat.le_refl _, by rfl⟩
  · rename_i b V s2
    cases hg
    obtain ⟨l1, q⟩ := logB hl
    obtain ⟨l2, q⟩ := logB q
    obtain ⟨l3, _⟩ := logB q
    have l1 := of_decide_eq_true l1
    obtain ⟨h0, hd⟩ := (okP_iff b).1 l2
    have h2 := Nat.le_of_ble_eq_true l3
    rw [← l1]
    have e : rn (fun _ => h.n) (Value.tuple #[sl 0 0 (db 4294967296 (psV b)).length (psN b), .nilIface]) = .tuple #[sl h.n 0 (db 4294967296 (psV b)).length (psN b), .nilIface] := by kernel_rfl
    have := row_calls1 (T := tabH Tryz.prog extY conPr hcPr) Tryz.func75 pr_body (h0 := ⟨0, []⟩) rows0 (vals := [.string b]) (fun v hv => by rw [List.mem_singleton.1 hv]; rfl) (k := 0) (cs := wU (dg (psN b) ((psV b : Nat) : Int))) (ty := tU) (wU_lt _) (by kernel_rfl) (parse_runs h0 hd h2).w (by rfl) E (s := fun i => i) (fun i x hx => by have : i < 0 := Hp.blk_lt hx; omega)
    rw [e] at this
    exact this
  · cases hg
end Go.Proofs.YtjlponbdflkbjaaGreatDoor.Na
namespace Go.Proofs.YtjlponbdflkbjaaGreatDoor.Na
open Go.KRun Go.Nt
set_option maxRecDepth 100000
set_option linter.unusedVariables false
theorem lns_0 (u : Int) : Fits (reckon (tabOf Tryz.prog extY conN true) 3000 114 [.int .u64 u] [tst false, tst false, tst false, tst false]) (lenE 0 u) [lt8 u, geq u 256 false, geq u 65536 false, geq u 4294967296 false, nz] := ⟨by kernel_rfl, by kernel_rfl, by kernel_rfl, by kernel_rfl⟩
theorem lns_1 (u : Int) : Fits (reckon (tabOf Tryz.prog extY conN true) 3000 114 [.int .u64 u] [tst false, tst false, tst false, tst true]) (lenE 8 (shd u 8)) [lt8 (shd u 8), nz, geq u 256 true, geq u 65536 false, geq u 4294967296 false, nz] := ⟨by kernel_rfl, by kernel_rfl, by kernel_rfl, by kernel_rfl⟩
theorem lns_calls (u : Int) (h0 : 0 ≤ u) (h1 : u < 65536) (w : World) : Calls Tryz.prog 114 #[.int .u64 u] w fun e w' => e = .returned (.int .i64 (bitLen u.toNat : Nat)) ∧ Tidy w w' := by
  obtain ⟨U, rfl⟩ := Int.eq_ofNat_of_zero_le h0
  rw [Int.toNat_natCast]
  have p8 : (2 : Nat) ^ 8 = 256 := rfl
  have step : ∀ {v : Value} {s : List Dec} {cs : Log}, Fits (reckon (tabOf Tryz.prog extY conN true) 3000 114 [.int .u64 (U : Int)] s) v cs → okLog cs → v = .int .i64 (bitLen U : Nat) → Calls Tryz.prog 114 #[.int .u64 (U : Int)] w fun e w' => e = .returned (.int .i64 (bitLen U : Nat)) ∧ Tidy w w' :=
    fun {v s cs} hf hc hv => by subst hv; exact fits_calls (tabY_ok conN_ok) hf hc (by rfl) (by rfl) w
  by_cases c : U < 256
  · obtain ⟨e1, e2⟩ := lenE_eq (m := 0) (by omega) (by omega) c
    exact step (lns_0 U) (okTwo e2 (okTwo (geq_f (by omega)) (okTwo (geq_f (by omega)) (okTwo (geq_f (by omega)) (okOne nz_ok))))) (by rw [e1]; congr 1; omega)
  · have l := len_up U 8 (by omega)
    obtain ⟨e1, e2⟩ := lenE_eq (m := 8) (Z := U / 2 ^ 8) (by omega) (by omega) (by omega)
    rw [← shd_eq] at e1 e2
    exact step (lns_1 U) (okTwo e2 (okTwo nz_ok (okTwo (geq_t (by omega)) (okTwo (geq_f (by omega)) (okTwo (geq_f (by omega)) (okOne nz_ok)))))) (by rw [e1]; congr 1; omega)
def gLenS : Ans := fun vals s =>
  match vals with
  | [.int .u64 x] => some (.int .i64 (bitLen x.toNat : Nat), s, [(decide (0 ≤ x ∧ x < 65536), true)])
  | _ => none
theorem gLenS_ok : AnsOk 114 gLenS := by
  intro vals s v s' lg h hl w
  unfold gLenS at h
  split at h
  · cases h
    have hr := hl _ (List.mem_singleton.2 rfl)
    simp only [decide_eq_true_eq] at hr
    exact lns_calls _ hr.1 hr.2 w
  · cases h
def conPw : Con := alt 114 gLenS conN
theorem conPw_ok : ConOk conPw := alt_ok Tryz.func114 rfl gLenS_ok conN_ok
/-! ### nat.Of -/
def hcOf : Hc := altH 112 gTrim hcN
theorem hcOf_ok : HcOk hcOf := altH_ok Tryz.func112 rfl gTrim_ok hcN_ok
theorem of_body : Tryz.f113.body = some (cBody Tryz.f113) := by kernel_rfl
end Go.Proofs.YtjlponbdflkbjaaGreatDoor.Na
namespace Go.Proofs.YtjlponbdflkbjaaGreatDoor
open Go.KRun Go.Nt
set_option maxRecDepth 100000
set_option linter.unusedVariables false
/-! ### rows of numbers -/
/-- what is known of the two rows -/
structure Two (la lb : List Value) (o o' c' : Nat) (A L : List Int) : Prop where
  ra : Row la o A
  rb : Row lb o' L
  dA : ∀ x ∈ A, Dg 65536 x
  cL : Canon 65536 L
  n1 : 1 ≤ L.length
  n2 : L.length < 1000000
  a1 : 1 ≤ A.length
  a2 : A.length < 1000000
  cb : rowC tR lb o' L.length c' = true
  sb : ∀ v ∈ lb, still v = true
  sa : ∀ v ∈ la, still v = true
  eb : cutI lb o' L.length = L
end Go.Proofs.YtjlponbdflkbjaaGreatDoor
namespace Go.Proofs.YtjlponbdflkbjaaGreatDoor.Na
open Go.KRun Go.Nt
set_option maxRecDepth 100000
set_option linter.unusedVariables false
/-! ### rows of the document's digits, rows of words -/
def Is32 (H : Hp) (p : Option Addr) (n c V : Nat) : Prop := rowP H p n c = true ∧ rowOf H p n = d32 V
theorem d32_wds (V : Nat) : wds (d32 V) := db_dg (by omega) V
theorem cut_take {L : List Int} (n : Nat) : cutI (wU L) 0 n = L.take n := by
  unfold cutI cutV wU
  rw [List.drop_zero, ← List.map_take, List.map_map]
  exact (List.map_congr_left fun z _ => rfl).trans (List.map_id' _)
theorem is32d {H : Hp} {b V m : Nat} (hb : H.blk? b = some (wU (dg m (V : Int)), tU)) (hV : V < 4294967296 ^ m) (hm : m ≤ 1000) : Is32 H (some ⟨b, 0, none⟩) (trimN (dg m (V : Int))) m V := by
  have hw := dg_wds m (V : Int)
  have hl := dg_len m (V : Int)
  have ht := trimN_le (dg m (V : Int))
  refine ⟨?_, ?_⟩
  · unfold rowP
    simp only [hb]
    unfold rowC
    have e1 : tomb tU = false := by kernel_rfl
    have e2 : Nat.beq (rt tU) tU = true := by kernel_rfl
    have e3 : Nat.ble (0 + trimN (dg m (V : Int))) (wU (dg m (V : Int))).length = true := Nat.ble_eq_true_of_le (by rw [wU_len]; omega)
    have e4 : Nat.blt (trimN (dg m (V : Int))) 4611686018427387904 = true := blt_iff.2 (by omega)
    have e5 : ((cutV (wU (dg m (V : Int))) 0 (trimN (dg m (V : Int)))).all isU) = true := by
      unfold cutV
      rw [List.drop_zero]
      refine List.all_eq_true.2 fun v hv => ?_
      have hv := List.mem_of_mem_take hv
      unfold wU at hv
      obtain ⟨x, hx, rfl⟩ := List.mem_map.1 hv
      exact decide_eq_true (hw x hx)
    have e6 : capOk 0 (trimN (dg m (V : Int))) m = true := by
      unfold capOk
      rw [show smallC m = true from blt_iff.2 (by have : dead = 4611686018427387904 := rfl; omega), Nat.ble_eq_true_of_le (by omega)]
      rfl
    rw [e1, e2, e3, e4, e5, e6, List.all_eq_true.2 (wU_still _)]
    rfl
  · unfold rowOf
    simp only [hb]
    rw [cut_take]
    refine take_dg ?_
    have : ((4294967296 ^ m : Nat) : Int) = 4294967296 ^ m := by rw [Int.natCast_pow]; rfl
    rw [← this]
    omega
def gPdN : AnsH := fun vals h s =>
  match vals, s with
  | [.slice p n c, .slice q n' c'], .inr (.inr (.inr (.inl true))) :: s' => some (.tuple #[nilS, .nilIface], h, s', [(decide (n = 0 ∨ n' = 0), true)])
  | [.slice p n c, .slice q n' c'], .inr (.inr (.inr (.inl false))) :: .inr (.inl V) :: s' => some (.tuple #[sl h.n 0 (trimN (dg (n + n') V)) (n + n'), .nilIface], h.push (wU (dg (n + n') V)) tU, s', [(decide (mulR (rowOf h p n) (rowOf h q n') = dg (n + n') V), true), (rowX h p n c, true), (rowX h q n' c', true), (!decide (n = 0 ∨ n' = 0) && Nat.ble (n + n') 8192, true)])
  | _, _ => none
theorem gPdN_ok : AnsHOk 115 gPdN := by
  intro vals h s v h' s' lg hg hl
  unfold gPdN at hg
  split at hg
  · cases hg
    exact gPdU_ok _ h [cmp true] _ _ [] _ rfl hl
  · rename_i p n c q n' c' V s3
    cases hg
    obtain ⟨l1, l2⟩ := log_tl hl
    have l1 := of_decide_eq_true l1
    refine gPdU_ok _ h [cmp false] _ _ [] _ ?_ l2
    simp only [gPdU, l1]
  · cases hg
theorem mul_lt {x y m k : Nat} (hx : x < 4294967296 ^ m) (hy : y < 4294967296 ^ k) : x * y < 4294967296 ^ (m + k) := by
  rw [Nat.pow_add]
  exact Nat.mul_lt_mul'' hx hy
def h5 (la lb R Y Q : List Value) : Hp := ⟨5, [(Q, tU), (Y, tU), (R, tU), (lb, tR), (la, tR)]⟩
def toT (k x d : Int) : Int := IntKind.u64.wrap (k + IntKind.u64.wrap (IntKind.u64.wrap x * IntKind.u64.wrap d))
def toW (k x d : Int) : Int := IntKind.u32.wrap (toT k x d)
def toC (k x d : Int) : Int := (toT k x d).fdiv (2 ^ min (Int.toNat 32) 64)
def toP (F : Func) : List Code := [cFst (sn 0 F), cFst (sn 1 F), cFst (sn 2 F), cFst (sn 3 F), cFst (sn 4 F)]
def toB (F : Func) : Code := cFst (sn 5 F)
def toL (F : Func) : Code := cIn (cIn (cSnd (toB F)))
def toF (o m c n k : Nat) (d cy b : Int) (v11 v12 : Value) : List Value := [sl 2 o m c, sl 3 0 n k, uu d, undef, undef, undef, .bool false, i6' n, sl 2 o n c, .int .u64 cy, uu b, v11, v12]
theorem to_body : Tryz.f136.body = some (seqs (toP Tryz.f136) (.seq (.seq (cFst (toB Tryz.f136)) (.block 0 (.loop (toL Tryz.f136)))) (sn 6 Tryz.f136))) := by kernel_rfl
theorem to_pre (o m c n k : Nat) (d : Int) (la lb R Y Q : List Value) : GoesT (evL (tabOf Tryz.prog extY conB true) 100 (toP Tryz.f136) ([sl 2 o m c, sl 3 0 n k, uu d] ++ List.replicate 62 undef, h5 la lb R Y Q, [num 0]) ⟨[], [], []⟩) 13 52 none (toF o m c n k d 0 0 undef undef) (h5 la lb R Y Q) [(smallC c, true), (okPart 0 n c c, true), (decide ((c : Int) = 0 ∧ (0 : Int) ≠ 0), false)] := ⟨by kernel_rfl, by kernel_rfl, by kernel_rfl⟩
theorem to_r (o m c n k : Nat) (d cy b : Int) (v11 v12 : Value) (h : Hp) (g : Nat → Value) : GoesM (evC (tabOf Tryz.prog extY conB true) 100 false (cFst (toB Tryz.f136)) (toF o m c n k d cy b v11 v12 ++ tl 52 g, h, []) ⟨[], [], []⟩) 13 5 3 44 none (toF o m c n k d cy b v11 v12) [sl 3 0 n k, i6' n, i6' 0] h [] := ⟨by kernel_rfl, by kernel_rfl, by kernel_rfl⟩
theorem to_out (o m c n k : Nat) (d cy b j : Int) (v11 v12 : Value) (h : Hp) (g g' : Nat → Value) : GoesM (evC (tabOf Tryz.prog extY conB true) 100 false (toL Tryz.f136) (ml (toF o m c n k d cy b v11 v12) 5 g [sl 3 0 n k, i6' n, i6' j] 44 g', h, [cmp false]) ⟨[], [], []⟩) 13 5 3 44 (some (some 0)) (toF o m c n k d cy b v11 v12) [sl 3 0 n k, i6' n, i6' j] h [(decide (j < n), false)] := ⟨by kernel_rfl, by kernel_rfl, by kernel_rfl⟩
theorem to_go (o m c n k : Nat) (d cy b j x y : Int) (v11 v12 : Value) (la lb R Y Q : List Value) (g g' : Nat → Value) : GoesM (evC (tabOf Tryz.prog extY conB true) 100 false (toL Tryz.f136) (ml (toF o m c n k d cy b v11 v12) 5 g [sl 3 0 n k, i6' n, i6' j] 44 g', h5 la lb R Y Q, [cmp true, at_, val (uu x), at_, val (uu y), at_, at_]) ⟨[], [], []⟩) 13 5 3 44 none (toF o m c n k d (toC cy x d) (subB y (toW cy x d) b) (i6' j) (uu x)) [sl 3 0 n k, i6' n, i6' (IntKind.i64.wrap (j + 1))] (h5 la lb (R.set (o + j.toNat * 1) (uu (subD y (toW cy x d) b))) Y Q)
    [(decide ((32 : Int) < 0), false), (decide (o + j.toNat * 1 < R.length), true), inR j n, (wd4 y (toW cy x d) b, true), celR R o j y, inR j n, celR Y 0 j x, inR j n, (decide (j < n), true)] := ⟨by kernel_rfl, by kernel_rfl, by kernel_rfl⟩
theorem to_end (e : Bool) (o m c n k : Nat) (d cy b y : Int) (v11 v12 u1 u2 u3 : Value) (la lb R Y Q : List Value) (g g' : Nat → Value) : GoesT (evC (tabOf Tryz.prog extY conB true) 100 false (sn 6 Tryz.f136) (ml (toF o m c n k d cy b v11 v12) 5 g [u1, u2, u3] 44 g', h5 la lb R Y Q, [at_, val (uu y), at_, at_, cmp e]) ⟨[], [], []⟩) 7 58 (some none) [sl 2 o m c, sl 3 0 n k, uu d, undef, undef, undef, .bool e] (h5 la lb (R.set (o + ((n : Int)).toNat * 1) (uu (subD y (IntKind.u32.wrap cy) b))) Y Q)
    [(subB y (IntKind.u32.wrap cy) b != 0, e), (decide (o + ((n : Int)).toNat * 1 < R.length), true), inR n m, (wd4 y (IntKind.u32.wrap cy) b, true), celR R o n y, inR n m] := by
  cases e <;> exact ⟨by kernel_rfl, by kernel_rfl, by kernel_rfl⟩
end Go.Proofs.YtjlponbdflkbjaaGreatDoor.Na
namespace Go.Nt
theorem to_step {P a b x y k br d e l A B D W : Int} (hk : k + x * d = W + 4294967296 * e) (hs : y - W - br = D - 4294967296 * l) (h : a + P * ((y + 4294967296 * A) - d * (x + 4294967296 * B) - k - br) = b) : a + P * D + 4294967296 * P * (A - d * B - e - l) = b := by
  rw [← h]
  have e1 : (y + 4294967296 * A) - d * (x + 4294967296 * B) - k - br = D + 4294967296 * (A - d * B - e - l) := by
    rw [Int.mul_add d x, ← Int.mul_assoc d 4294967296 B, Int.mul_comm d 4294967296, Int.mul_assoc 4294967296 d B, Int.mul_comm d x]
    omega
  rw [e1]
  generalize A - d * B - e - l = Z
  rw [Int.mul_add P D, ← Int.mul_assoc P 4294967296 Z, Int.mul_comm P 4294967296]
  omega
theorem pb_step {P a b x y br e A B D : Int} (hs : y + x + br = D + 4294967296 * e) (h : a + P * ((y + 4294967296 * A) + (x + 4294967296 * B) + br) = b) : a + P * D + 4294967296 * P * (A + B + e) = b := by
  rw [← h]
  have e1 : (y + 4294967296 * A) + (x + 4294967296 * B) + br = D + 4294967296 * (A + B + e) := by omega
  rw [e1]
  generalize A + B + e = Z
  rw [Int.mul_add P D, ← Int.mul_assoc P 4294967296 Z, Int.mul_comm P 4294967296]
  omega
/-- the last word: what comes, and whether it went below 0 or beyond -/
theorem last_word {dx : List Int} {D l V : Int} (hd : wds dx) (hD : 0 ≤ D ∧ D < 4294967296) (h : vN dx + 4294967296 ^ dx.length * (D + 4294967296 * l) = V) : dx ++ [D] = dg (dx.length + 1) V ∧ V / 4294967296 ^ (dx.length + 1) = l := by
  have hw : wds (dx ++ [D]) := wds_app hd (fun x hx => by rw [List.mem_singleton.1 hx]; exact hD)
  have hv : vN (dx ++ [D]) + 4294967296 ^ (dx.length + 1) * l = V := by
    rw [vN_snoc, ← h, pw, Int.mul_add, ← Int.mul_assoc, Int.mul_comm (4294967296 ^ dx.length) 4294967296]
    omega
  have hl : (dx ++ [D]).length = dx.length + 1 := by simp
  have hb := vN_bd (dx ++ [D]) hw
  rw [hl] at hb
  constructor
  · rw [← hv, dg_mod, ← hl]
    exact (dg_vN _ hw).symm
  · rw [← hv, Int.add_mul_ediv_left _ _ (by have := pw_pos (dx.length + 1); omega), Int.ediv_eq_zero_of_lt hb.1 hb.2, Int.zero_add]
theorem neg_div {V Q l : Int} (hQ : 0 < Q) (h : V / Q = l) : V < 0 ↔ l < 0 := by
  subst h
  constructor
  · intro hv
    exact Int.ediv_lt_of_lt_mul hQ (by omega)
  · intro hl
    refine Decidable.byContradiction fun hn => ?_
    have := Int.ediv_nonneg (a := V) (b := Q) (by omega) (by omega)
    omega
end Go.Nt
