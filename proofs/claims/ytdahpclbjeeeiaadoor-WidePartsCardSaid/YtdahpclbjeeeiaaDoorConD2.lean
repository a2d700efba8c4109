/-
  bits.Div64, of a divisor whose highest bit is set, as a call, II: the rounds together, and the call.
-/
import Derived.Test.YtdahpclbjeeeiaaDoorConD1
namespace Go.Proofs.YtdahpclbjeeeiaaDoor
open Go.KRun Go.Wd
set_option maxRecDepth 100000

theorem dig_gt {M n1 n0 n u q rh : Int} (hD : 0 < n1 * M + n0) (e : n = q * n1 + rh) (h : q * n0 > M * rh + u) : (n * M + u) / (n1 * M + n0) < q := by
  refine Int.ediv_lt_of_lt_mul hD ?_
  rw [e, Int.add_mul, Int.mul_add, Int.mul_assoc, Int.mul_comm rh M]
  omega
theorem dig_le {M n1 n0 n u q rh : Int} (hD : 0 < n1 * M + n0) (e : n = q * n1 + rh) (h : q * n0 ≤ M * rh + u) : q ≤ (n * M + u) / (n1 * M + n0) := by
  refine Int.le_ediv_of_mul_le hD ?_
  rw [e, Int.add_mul, Int.mul_add, Int.mul_assoc, Int.mul_comm rh M]
  omega
/-- what holds of a digit's guess -/
structure Dig (n1 n0 n u q rh : Int) : Prop where
  hn1 : 2147483648 ≤ n1 ∧ n1 < 4294967296
  hn0 : 0 ≤ n0 ∧ n0 < 4294967296
  hn : 0 ≤ n ∧ n < n1 * 4294967296 + n0
  hu : 0 ≤ u ∧ u < 4294967296
  hrh : 0 ≤ rh ∧ rh < 4294967296
  he : n = q * n1 + rh
  hq : (n * 4294967296 + u) / (n1 * 4294967296 + n0) ≤ q
def dgt (n1 n0 n u : Int) : Int := (n * 4294967296 + u) / (n1 * 4294967296 + n0)
theorem Dig.range {n1 n0 n u q rh : Int} (D : Dig n1 n0 n u q rh) : 0 < n1 * 4294967296 + n0 ∧ 0 ≤ dgt n1 n0 n u ∧ dgt n1 n0 n u < 4294967296 ∧ dgt n1 n0 n u ≤ q ∧ q < 18446744073709551616 := by
  obtain ⟨a, b, c, d, e, f, g⟩ := D
  have hD : 0 < n1 * 4294967296 + n0 := by omega
  have h0 : 0 ≤ dgt n1 n0 n u := Int.ediv_nonneg (by omega) (by omega)
  refine ⟨hD, h0, Int.ediv_lt_of_lt_mul hD (by omega), g, ?_⟩
  have h1 : q * 1 ≤ q * n1 := Int.mul_le_mul_of_nonneg_left (by omega) (Int.le_trans h0 g)
  omega
theorem Dig.big {n1 n0 n u q rh : Int} (D : Dig n1 n0 n u q rh) (h : q ≥ 4294967296) : dgt n1 n0 n u < q := by have := D.range; omega
theorem Dig.mul {n1 n0 n u q rh : Int} (D : Dig n1 n0 n u q rh) (h : ¬ q ≥ 4294967296) : 0 ≤ q * n0 ∧ q * n0 < 18446744073709551616 := by
  have r := D.range
  have b0 := D.hn0
  refine ⟨Int.mul_nonneg (by omega) b0.1, ?_⟩
  have := Int.mul_le_mul (show q ≤ 4294967295 by omega) (show n0 ≤ 4294967295 by omega) b0.1 (by omega)
  omega
theorem Dig.too {n1 n0 n u q rh : Int} (D : Dig n1 n0 n u q rh) (h : ¬ q ≥ 4294967296) (d : Bool) : (tooG q n0 rh u d).1 = decide (q * n0 > 4294967296 * rh + u) := by
  have m := D.mul h
  have r := D.hrh
  have v := D.hu
  unfold tooG
  simp only [wrap_u64]
  rw [Int.emod_eq_of_lt m.1 m.2, Int.emod_eq_of_lt (a := 4294967296 * rh) (by omega) (by omega), Int.emod_eq_of_lt (by omega) (by omega)]
theorem Dig.next {n1 n0 n u q rh : Int} (D : Dig n1 n0 n u q rh) (h : dgt n1 n0 n u < q) : IntKind.u64.wrap (q - 1) = q - 1 ∧ IntKind.u64.wrap (rh + n1) = rh + n1 ∧ n = (q - 1) * n1 + (rh + n1) ∧ dgt n1 n0 n u ≤ q - 1 := by
  have r := D.range
  have a := D.hn1
  have b := D.hrh
  refine ⟨by rw [wrap_u64]; omega, by rw [wrap_u64]; omega, ?_, by omega⟩
  rw [Int.sub_mul, Int.one_mul]
  have := D.he
  omega
theorem Dig.stop {n1 n0 n u q rh : Int} (D : Dig n1 n0 n u q rh) (h : dgt n1 n0 n u < q) (hb : rh + n1 ≥ 4294967296) : q - 1 = dgt n1 n0 n u := by
  obtain ⟨_, _, e, l⟩ := D.next h
  have r := D.range
  have a := D.hn1
  have b := D.hn0
  have c := D.hn
  have lt : q - 1 < 4294967296 := by
    refine Int.lt_of_mul_lt_mul_right (a := n1) ?_ (by omega)
    rw [Int.mul_comm 4294967296 n1]
    generalize (q - 1) * n1 = t at *
    omega
  have m : (q - 1) * n0 ≤ 4294967295 * 4294967295 := Int.mul_le_mul (by omega) (by omega) b.1 (by omega)
  have := dig_le (q := q - 1) (rh := rh + n1) (u := u) r.1 e (by have := D.hu; omega)
  unfold dgt at *
  omega
theorem Dig.done {n1 n0 n u q rh : Int} (D : Dig n1 n0 n u q rh) (h : ¬ q * n0 > 4294967296 * rh + u) : q = dgt n1 n0 n u := by
  have r := D.range
  have := dig_le (u := u) r.1 D.he (by omega)
  unfold dgt at *
  omega
theorem gM_ok (q : Int) : (gM q (decide (q ≥ 4294967296))).1 = (gM q (decide (q ≥ 4294967296))).2 := rfl
theorem gM_t {q : Int} (h : q ≥ 4294967296) : (gM q true).1 = (gM q true).2 := decide_eq_true h
theorem gM_f {q : Int} (h : ¬ q ≥ 4294967296) : (gM q false).1 = (gM q false).2 := decide_eq_false h

theorem d1_loop (a0 a1 a2 a3 a4 a5 a6 a7 a8 a11 a12 a14 a17 a18 : Value) (n1 n0 n u q rh : Int) (D : Dig n1 n0 n u q rh) (g : Nat → Value) (s : List Dec) :
    Runs (tabOf Tryd.prog extY conZ true) (.block 0 (.loop (dL1 Tryd.f32))) (dFr a0 a1 a2 a3 a4 a5 a6 a7 a8 (u_ n1) (u_ n0) a11 a12 (u_ u) a14 (u_ q) (u_ rh) a17 a18 ++ tl 116 g, ⟨0, []⟩, s) fun e y => match e with
      | none => (∃ rh g, y.1 = dFr a0 a1 a2 a3 a4 a5 a6 a7 a8 (u_ n1) (u_ n0) a11 a12 (u_ u) a14 (u_ (dgt n1 n0 n u)) (u_ rh) a17 a18 ++ tl 116 g) ∧ y.2.1 = ⟨0, []⟩
      | some none => False
      | some (some _) => False := by
  refine Runs.forLoop (n := (q - dgt n1 n0 n u).toNat) (R := fun _ => False) (P := fun y => (∃ rh g, y.1 = dFr a0 a1 a2 a3 a4 a5 a6 a7 a8 (u_ n1) (u_ n0) a11 a12 (u_ u) a14 (u_ (dgt n1 n0 n u)) (u_ rh) a17 a18 ++ tl 116 g) ∧ y.2.1 = ⟨0, []⟩)
    (fun r y => ∃ (q rh : Int) (g : Nat → Value), Dig n1 n0 n u q rh ∧ (r : Int) = q - dgt n1 n0 n u ∧ y.1 = dFr a0 a1 a2 a3 a4 a5 a6 a7 a8 (u_ n1) (u_ n0) a11 a12 (u_ u) a14 (u_ q) (u_ rh) a17 a18 ++ tl 116 g ∧ y.2.1 = ⟨0, []⟩) ?_
    ⟨q, rh, g, D, by have := D.range; omega, rfl, rfl⟩
  clear D g s q rh
  rintro r ⟨t, h', s'⟩ ⟨q, rh, g, D, hr, ht, hh⟩
  simp only at ht hh
  subst ht hh
  have step : ∀ (d : Bool) (y : Lf), d = decide (IntKind.u64.wrap (rh + n1) ≥ 4294967296) → dgt n1 n0 n u < q → ∀ e, e = exO d 0 → (∃ g, y.1 = dFr a0 a1 a2 a3 a4 a5 a6 a7 a8 (u_ n1) (u_ n0) a11 a12 (u_ u) a14 (u_ (IntKind.u64.wrap (q - 1))) (u_ (IntKind.u64.wrap (rh + n1))) a17 a18 ++ tl 116 g) → y.2.1 = ⟨0, []⟩ →
      match e with
      | none => ∃ n', n' < r ∧ ∃ (q rh : Int) (g : Nat → Value), Dig n1 n0 n u q rh ∧ (n' : Int) = q - dgt n1 n0 n u ∧ y.1 = dFr a0 a1 a2 a3 a4 a5 a6 a7 a8 (u_ n1) (u_ n0) a11 a12 (u_ u) a14 (u_ q) (u_ rh) a17 a18 ++ tl 116 g ∧ y.2.1 = ⟨0, []⟩
      | some none => False
      | some (some id') => id' = 0 ∧ (∃ rh g, y.1 = dFr a0 a1 a2 a3 a4 a5 a6 a7 a8 (u_ n1) (u_ n0) a11 a12 (u_ u) a14 (u_ (dgt n1 n0 n u)) (u_ rh) a17 a18 ++ tl 116 g) ∧ y.2.1 = ⟨0, []⟩ := by
    rintro d y hd hq e rfl ⟨g', hy⟩ hh
    obtain ⟨w1, w2, w3, w4⟩ := D.next hq
    rw [w1, w2] at hy
    rw [w2] at hd
    by_cases hb : rh + n1 ≥ 4294967296
    · rw [decide_eq_true hb] at hd
      subst hd
      exact ⟨rfl, ⟨rh + n1, g', by rw [hy, D.stop hq hb]⟩, hh⟩
    · rw [decide_eq_false hb] at hd
      subst hd
      have a := D.hn1
      have b := D.hrh
      exact ⟨(q - 1 - dgt n1 n0 n u).toNat, by omega, q - 1, rh + n1, g', ⟨D.hn1, D.hn0, D.hn, D.hu, ⟨by omega, by omega⟩, w3, w4⟩, by omega, hy, hh⟩
  by_cases hb : q ≥ 4294967296
  · refine (goesT_runs (tabY_ok conZ_ok) (d1_big (decide (IntKind.u64.wrap (rh + n1) ≥ 4294967296)) a0 a1 a2 a3 a4 a5 a6 a7 a8 a11 a12 a14 a17 a18 n1 n0 u q rh g).t (okCons (gM_ok _) (okL1 (gM_t hb)))).mono fun e y he => ?_
    exact step _ y rfl (D.big hb) e he.1 he.2.1 he.2.2
  · by_cases hc : q * n0 > 4294967296 * rh + u
    · refine (goesT_runs (tabY_ok conZ_ok) (d1_more (decide (IntKind.u64.wrap (rh + n1) ≥ 4294967296)) a0 a1 a2 a3 a4 a5 a6 a7 a8 a11 a12 a14 a17 a18 n1 n0 u q rh g).t (okCons (gM_ok _) (okCons ((D.too hb true).trans (decide_eq_true hc)) (okL1 (gM_f hb))))).mono fun e y he => ?_
      exact step _ y rfl (dig_gt D.range.1 D.he hc) e he.1 he.2.1 he.2.2
    · refine (goesT_runs (tabY_ok conZ_ok) (d1_out a0 a1 a2 a3 a4 a5 a6 a7 a8 a11 a12 a14 a17 a18 n1 n0 u q rh g).t (okCons ((D.too hb false).trans (decide_eq_false hc)) (okL1 (gM_f hb)))).mono fun e y he => ?_
      obtain ⟨rfl, ⟨g', h2⟩, h3⟩ := he
      have e1 := D.done hc
      exact ⟨rfl, ⟨rh, g', by rw [h2, ← e1]⟩, h3⟩

theorem d2_loop (a0 a1 a2 a3 a4 a5 a6 a7 a8 a11 a12 a14 a17 a18 : Value) (n1 n0 n u q rh : Int) (D : Dig n1 n0 n u q rh) (g : Nat → Value) (s : List Dec) :
    Runs (tabOf Tryd.prog extY conZ true) (.block 2 (.loop (dL2 Tryd.f32))) (dFr a0 a1 a2 a3 a4 a5 a6 a7 a8 (u_ n1) (u_ n0) a11 a12 a14 (u_ u) a17 (u_ rh) a18 (u_ q) ++ tl 116 g, ⟨0, []⟩, s) fun e y => match e with
      | none => (∃ rh g, y.1 = dFr a0 a1 a2 a3 a4 a5 a6 a7 a8 (u_ n1) (u_ n0) a11 a12 a14 (u_ u) a17 (u_ rh) a18 (u_ (dgt n1 n0 n u)) ++ tl 116 g) ∧ y.2.1 = ⟨0, []⟩
      | some none => False
      | some (some _) => False := by
  refine Runs.forLoop (n := (q - dgt n1 n0 n u).toNat) (R := fun _ => False) (P := fun y => (∃ rh g, y.1 = dFr a0 a1 a2 a3 a4 a5 a6 a7 a8 (u_ n1) (u_ n0) a11 a12 a14 (u_ u) a17 (u_ rh) a18 (u_ (dgt n1 n0 n u)) ++ tl 116 g) ∧ y.2.1 = ⟨0, []⟩)
    (fun r y => ∃ (q rh : Int) (g : Nat → Value), Dig n1 n0 n u q rh ∧ (r : Int) = q - dgt n1 n0 n u ∧ y.1 = dFr a0 a1 a2 a3 a4 a5 a6 a7 a8 (u_ n1) (u_ n0) a11 a12 a14 (u_ u) a17 (u_ rh) a18 (u_ q) ++ tl 116 g ∧ y.2.1 = ⟨0, []⟩) ?_
    ⟨q, rh, g, D, by have := D.range; omega, rfl, rfl⟩
  clear D g s q rh
  rintro r ⟨t, h', s'⟩ ⟨q, rh, g, D, hr, ht, hh⟩
  simp only at ht hh
  subst ht hh
  have step : ∀ (d : Bool) (y : Lf), d = decide (IntKind.u64.wrap (rh + n1) ≥ 4294967296) → dgt n1 n0 n u < q → ∀ e, e = exO d 2 → (∃ g, y.1 = dFr a0 a1 a2 a3 a4 a5 a6 a7 a8 (u_ n1) (u_ n0) a11 a12 a14 (u_ u) a17 (u_ (IntKind.u64.wrap (rh + n1))) a18 (u_ (IntKind.u64.wrap (q - 1))) ++ tl 116 g) → y.2.1 = ⟨0, []⟩ →
      match e with
      | none => ∃ n', n' < r ∧ ∃ (q rh : Int) (g : Nat → Value), Dig n1 n0 n u q rh ∧ (n' : Int) = q - dgt n1 n0 n u ∧ y.1 = dFr a0 a1 a2 a3 a4 a5 a6 a7 a8 (u_ n1) (u_ n0) a11 a12 a14 (u_ u) a17 (u_ rh) a18 (u_ q) ++ tl 116 g ∧ y.2.1 = ⟨0, []⟩
      | some none => False
      | some (some id') => id' = 2 ∧ (∃ rh g, y.1 = dFr a0 a1 a2 a3 a4 a5 a6 a7 a8 (u_ n1) (u_ n0) a11 a12 a14 (u_ u) a17 (u_ rh) a18 (u_ (dgt n1 n0 n u)) ++ tl 116 g) ∧ y.2.1 = ⟨0, []⟩ := by
    rintro d y hd hq e rfl ⟨g', hy⟩ hh
    obtain ⟨w1, w2, w3, w4⟩ := D.next hq
    rw [w1, w2] at hy
    rw [w2] at hd
    by_cases hb : rh + n1 ≥ 4294967296
    · rw [decide_eq_true hb] at hd
      subst hd
      exact ⟨rfl, ⟨rh + n1, g', by rw [hy, D.stop hq hb]⟩, hh⟩
    · rw [decide_eq_false hb] at hd
      subst hd
      have a := D.hn1
      have b := D.hrh
      exact ⟨(q - 1 - dgt n1 n0 n u).toNat, by omega, q - 1, rh + n1, g', ⟨D.hn1, D.hn0, D.hn, D.hu, ⟨by omega, by omega⟩, w3, w4⟩, by omega, hy, hh⟩
  by_cases hb : q ≥ 4294967296
  · refine (goesT_runs (tabY_ok conZ_ok) (d2_big (decide (IntKind.u64.wrap (rh + n1) ≥ 4294967296)) a0 a1 a2 a3 a4 a5 a6 a7 a8 a11 a12 a14 a17 a18 n1 n0 u q rh g).t (okCons (gM_ok _) (okL1 (gM_t hb)))).mono fun e y he => ?_
    exact step _ y rfl (D.big hb) e he.1 he.2.1 he.2.2
  · by_cases hc : q * n0 > 4294967296 * rh + u
    · refine (goesT_runs (tabY_ok conZ_ok) (d2_more (decide (IntKind.u64.wrap (rh + n1) ≥ 4294967296)) a0 a1 a2 a3 a4 a5 a6 a7 a8 a11 a12 a14 a17 a18 n1 n0 u q rh g).t (okCons (gM_ok _) (okCons ((D.too hb true).trans (decide_eq_true hc)) (okL1 (gM_f hb))))).mono fun e y he => ?_
      exact step _ y rfl (dig_gt D.range.1 D.he hc) e he.1 he.2.1 he.2.2
    · refine (goesT_runs (tabY_ok conZ_ok) (d2_out a0 a1 a2 a3 a4 a5 a6 a7 a8 a11 a12 a14 a17 a18 n1 n0 u q rh g).t (okCons ((D.too hb false).trans (decide_eq_false hc)) (okL1 (gM_f hb)))).mono fun e y he => ?_
      obtain ⟨rfl, ⟨g', h2⟩, h3⟩ := he
      have e1 := D.done hc
      exact ⟨rfl, ⟨rh, g', by rw [h2, ← e1]⟩, h3⟩
end Go.Proofs.YtdahpclbjeeeiaaDoor
