/-
  bits.Div64, of a divisor whose highest bit is set, and wide.guess, as calls.
-/
import Derived.Test.YtdahpclbjeeeiaaDoorConD2
namespace Go.Proofs.YtdahpclbjeeeiaaDoor
open Go.KRun Go.Wd
set_option maxRecDepth 100000

theorem s0_eq {z : Int} (h : word z) : s0 z = z := by
  unfold s0
  rw [show (2 : Int) ^ min ((IntKind.u64.wrap 0).toNat) 64 = 1 from rfl, Int.mul_one]
  exact wrap_u64' h.1 h.2
theorem s64_eq {z : Int} (h : word z) : s64 z = 0 := by
  unfold s64
  rw [show (2 : Int) ^ min ((IntKind.u64.wrap (64 - IntKind.u64.wrap 0)).toNat) 64 = 18446744073709551616 from rfl, Int.fdiv_eq_ediv_of_nonneg _ (by omega)]
  exact Int.ediv_eq_zero_of_lt h.1 h.2
theorem oE_eq {hi lo : Int} (h : word hi) (hl : word lo) : oE hi lo = hi := by
  unfold oE orq
  rw [s0_eq h, s64_eq hl, show BitVec.ofInt 64 0 = 0#64 from rfl, BitVec.or_zero]
  have e1 : (BitVec.ofInt 64 hi).toNat = hi.toNat := by
    rw [BitVec.toNat_ofInt]
    unfold word at h
    omega
  rw [e1, wrap_u64]
  unfold word at h
  omega
theorem rE_eq {n d : Int} (h : 0 ≤ n ∧ n < 18446744073709551616) (hd : 0 < d) : rE n (n / d) d = n % d ∧ n = n / d * d + n % d ∧ 0 ≤ n % d ∧ n % d < d := by
  have e := Int.mul_ediv_add_emod n d
  have m1 := Int.emod_nonneg n (show d ≠ 0 by omega)
  have m2 := Int.emod_lt_of_pos n hd
  rw [Int.mul_comm] at e
  have m3 : 0 ≤ n / d * d := Int.mul_nonneg (Int.ediv_nonneg h.1 (by omega)) (by omega)
  refine ⟨?_, by omega, m1, m2⟩
  unfold rE
  rw [wrap_u64, wrap_u64]
  generalize n / d * d = t at *
  omega
theorem mE_eq {n u q y : Int} (h0 : 0 ≤ n * 4294967296 + u - q * y) (h1 : n * 4294967296 + u - q * y < 18446744073709551616) : mE n u q y = n * 4294967296 + u - q * y := by
  unfold mE
  simp only [wrap_u64]
  generalize q * y = t at *
  omega
theorem dgt_rest (n1 n0 n u : Int) (hD : 0 < n1 * 4294967296 + n0) : 0 ≤ n * 4294967296 + u - dgt n1 n0 n u * (n1 * 4294967296 + n0) ∧ n * 4294967296 + u - dgt n1 n0 n u * (n1 * 4294967296 + n0) < n1 * 4294967296 + n0 := by
  unfold dgt
  have e := Int.mul_ediv_add_emod (n * 4294967296 + u) (n1 * 4294967296 + n0)
  have m1 := Int.emod_nonneg (n * 4294967296 + u) (show n1 * 4294967296 + n0 ≠ 0 by omega)
  have m2 := Int.emod_lt_of_pos (n * 4294967296 + u) hD
  rw [Int.mul_comm] at e
  generalize (n * 4294967296 + u) / (n1 * 4294967296 + n0) * (n1 * 4294967296 + n0) = t at *
  omega
theorem dig_begin {n1 n0 n u : Int} (h1 : 2147483648 ≤ n1 ∧ n1 < 4294967296) (h0 : 0 ≤ n0 ∧ n0 < 4294967296) (hn : 0 ≤ n ∧ n < n1 * 4294967296 + n0) (hu : 0 ≤ u ∧ u < 4294967296) : Dig n1 n0 n u (n / n1) (rE n (n / n1) n1) := by
  obtain ⟨e1, e2, e3, e4⟩ := rE_eq (n := n) (d := n1) ⟨hn.1, by omega⟩ (by omega)
  refine ⟨h1, h0, hn, hu, by rw [e1]; omega, by rw [e1]; exact e2, ?_⟩
  exact (guess_low (B := 4294967296) (by omega) (by omega) h0.1 hu.2 (Int.ediv_nonneg (by omega) (by omega)) (by omega)).1
theorem wrapq {n n1 : Int} (hn : 0 ≤ n ∧ n < 18446744073709551616) (h1 : 2147483648 ≤ n1) : (decide (IntKind.u64.wrap (n.tdiv n1) = n / n1), true).1 = (decide (IntKind.u64.wrap (n.tdiv n1) = n / n1), true).2 := by
  refine decide_eq_true ?_
  have a : 0 ≤ n / n1 := Int.ediv_nonneg hn.1 (by omega)
  have b : n / n1 ≤ n := Int.ediv_le_self _ hn.1
  rw [Int.tdiv_eq_ediv_of_nonneg hn.1, wrap_u64' a (by omega)]
def divV (hi lo y : Int) : Value := .tuple #[u_ ((hi * 18446744073709551616 + lo) / y), u_ ((hi * 18446744073709551616 + lo) % y)]
theorem div_calls (hi lo y : Int) (hh : word hi) (hl : word lo) (hy : 9223372036854775808 ≤ y ∧ y < 18446744073709551616) (hlt : hi < y) (w : World) : Calls Tryd.prog 32 #[u_ hi, u_ lo, u_ y] w fun e w' => e = .returned (divV hi lo y) ∧ Tidy w w' := by
  unfold word at hh hl
  by_cases hz : hi = 0
  · subst hz
    have h := fits_calls (tabY_ok conZ_ok) (div_zero lo y) (okCons (decide_eq_false (by omega : ¬ y = 0)) (okCons (decide_eq_false (by omega : ¬ y = 0)) (okCons (wrapq hl (by omega)) (okCons (by rfl) (okCons (decide_eq_false (by omega : ¬ y ≤ 0)) (okL1 (beq_eq_false_iff_ne.2 (by omega : y ≠ 0)))))))) (by rfl) (by rfl) w
    unfold divV
    rw [Int.zero_mul, Int.zero_add]
    rw [Int.tmod_eq_emod_of_nonneg hl.1] at h
    exact h
  · have wy : word y := ⟨by omega, hy.2⟩
    have ey := Int.mul_ediv_add_emod y 4294967296
    have el := Int.mul_ediv_add_emod lo 4294967296
    have b1 : 2147483648 ≤ y / 4294967296 ∧ y / 4294967296 < 4294967296 := by omega
    have b0 : 0 ≤ y % 4294967296 ∧ y % 4294967296 < 4294967296 := by omega
    have c1 : 0 ≤ lo / 4294967296 ∧ lo / 4294967296 < 4294967296 := by omega
    have c0 : 0 ≤ lo % 4294967296 ∧ lo % 4294967296 < 4294967296 := by omega
    have pre := div_pre hi lo y (hi / (y / 4294967296))
    rw [s0_eq wy, s0_eq hl, oE_eq hh hl, hi32_eq, hi32_eq, lo32_eq wy.1 wy.2, lo32_eq hl.1 hl.2] at pre
    have ey' : y = y / 4294967296 * 4294967296 + y % 4294967296 := by omega
    generalize y / 4294967296 = n1 at *
    generalize y % 4294967296 = n0 at *
    generalize lo / 4294967296 = u1 at *
    generalize lo % 4294967296 = u0 at *
    have D1 := dig_begin (n := hi) b1 b0 (by omega) c1
    have rg1 := D1.range
    have rs1 := dgt_rest n1 n0 hi u1 (by omega)
    have em : mE hi u1 (dgt n1 n0 hi u1) y = hi * 4294967296 + u1 - dgt n1 n0 hi u1 * y := mE_eq (by rw [ey']; omega) (by rw [ey']; omega)
    have rm : 0 ≤ mE hi u1 (dgt n1 n0 hi u1) y ∧ mE hi u1 (dgt n1 n0 hi u1) y < n1 * 4294967296 + n0 := by rw [em, ey']; exact rs1
    generalize hq1 : dgt n1 n0 hi u1 = q1 at *
    generalize hm : mE hi u1 q1 y = m at *
    have D2 := dig_begin (n := m) b1 b0 rm c0
    have rg2 := D2.range
    have rs2 := dgt_rest n1 n0 m u0 (by omega)
    have ee : mE m u0 (dgt n1 n0 m u0) y = m * 4294967296 + u0 - dgt n1 n0 m u0 * y := mE_eq (by rw [ey']; omega) (by rw [ey']; omega)
    refine calls_of_runs (T := (tabOf Tryd.prog extY conZ true)) Tryd.func32 div_body (vals := [u_ hi, u_ lo, u_ y]) (by rfl) (by rfl) (goesT_list (tabY_ok conZ_ok) pre.t
      (okCons (decide_eq_false (by omega : ¬ n1 = 0)) (okCons (wrapq hh b1.1) (okCons l32_ok (okCons l32_ok (okCons l32_ok (okCons l32_ok (okCons l32_ok (okCons l32_ok (okCons (decide_eq_true hy) (okCons (beq_eq_false_iff_ne.2 hz) (okCons (decide_eq_false (by omega : ¬ y ≤ hi)) (okL1 (beq_eq_false_iff_ne.2 (by omega : y ≠ 0))))))))))))))
      fun g => ?_) w
    refine Runs.seq (P1 := fun e z => e = none ∧ (∃ rh g, z.1 = dFr (u_ hi) (u_ lo) (u_ y) undef undef undef (u_ 0) (u_ 0) (u_ 0) (u_ n1) (u_ n0) (u_ hi) (u_ lo) (u_ u1) (u_ u0) (u_ q1) (u_ rh) undef undef ++ tl 116 g) ∧ z.2.1 = ⟨0, []⟩) ?_ ?_ (fun e z he => by cases he.1)
    · refine (d1_loop (u_ hi) (u_ lo) (u_ y) undef undef undef (u_ 0) (u_ 0) (u_ 0) (u_ hi) (u_ lo) (u_ u0) undef undef n1 n0 hi u1 _ _ D1 g []).mono fun e z he => ?_
      rw [hq1] at he
      match e, he with
      | none, he => exact ⟨rfl, he⟩
    rintro ⟨t, h', s⟩ ⟨_, ⟨rh, g1, ht⟩, hh'⟩
    simp only at ht hh'
    subst ht hh'
    have mid := div_mid (u_ hi) (u_ lo) undef undef undef (u_ 0) (u_ 0) (u_ 0) (u_ n0) (u_ lo) (u_ u0) (u_ rh) undef undef y n1 hi u1 q1 (m / n1) g1
    rw [hm] at mid
    refine goesT_list (tabY_ok conZ_ok) mid.t (okCons (decide_eq_false (by omega : ¬ n1 = 0)) (okL1 (wrapq (n := m) (by omega) b1.1))) fun g2 => ?_
    refine Runs.seq (P1 := fun e z => e = none ∧ (∃ rh g, z.1 = dFr (u_ hi) (u_ lo) (u_ y) undef undef undef (u_ 0) (u_ 0) (u_ 0) (u_ n1) (u_ n0) (u_ hi) (u_ lo) (u_ u1) (u_ u0) (u_ q1) (u_ rh) (u_ m) (u_ (dgt n1 n0 m u0)) ++ tl 116 g) ∧ z.2.1 = ⟨0, []⟩) ?_ ?_ (fun e z he => by cases he.1)
    · refine (d2_loop (u_ hi) (u_ lo) (u_ y) undef undef undef (u_ 0) (u_ 0) (u_ 0) (u_ hi) (u_ lo) (u_ u1) (u_ q1) (u_ m) n1 n0 m u0 _ _ D2 g2 []).mono fun e z he => ?_
      match e, he with
      | none, he => exact ⟨rfl, he⟩
    rintro ⟨t, h', s⟩ ⟨_, ⟨rh2, g3, ht⟩, hh'⟩
    simp only at ht hh'
    subst ht hh'
    generalize hq0 : dgt n1 n0 m u0 = q0 at *
    refine (goesT_runs (tabY_ok conZ_ok) (div_end (u_ hi) (u_ lo) undef undef undef (u_ 0) (u_ 0) (u_ n1) (u_ n0) (u_ hi) (u_ lo) (u_ u1) (u_ rh2) y u0 q1 m q0 g3).t (okL1 (by rfl))).mono fun e z he => ?_
    obtain ⟨rfl, ⟨g4, h2⟩, h3⟩ := he
    refine ⟨.inr rfl, ?_⟩
    have eq : IntKind.u64.wrap (IntKind.u64.wrap (q1 * 4294967296) + q0) = q1 * 4294967296 + q0 := by rw [wrap_u64, wrap_u64]; omega
    have er : (mE m u0 q0 y).fdiv (2 ^ min ((0 : Int).toNat) 64) = m * 4294967296 + u0 - q0 * y := by
      rw [show (2 : Int) ^ min ((0 : Int).toNat) 64 = 1 from rfl, Int.fdiv_one, ee]
    have key : hi * 18446744073709551616 + lo = y * (q1 * 4294967296 + q0) + (m * 4294967296 + u0 - q0 * y) := by
      have k1 : y * (q1 * 4294967296 + q0) = 4294967296 * (q1 * y) + q0 * y := by
        rw [Int.mul_add, Int.mul_comm y q0, Int.mul_comm y, Int.mul_assoc, Int.mul_comm 4294967296 y, ← Int.mul_assoc, Int.mul_comm (q1 * y)]
      rw [k1]
      generalize q1 * y = t1 at em ⊢
      generalize q0 * y = t0
      omega
    have ry : 0 ≤ m * 4294967296 + u0 - q0 * y ∧ m * 4294967296 + u0 - q0 * y < y := by
      rw [← ey'] at rs2
      exact rs2
    have fq : (hi * 18446744073709551616 + lo) / y = q1 * 4294967296 + q0 := ediv_of key ry.1 ry.2
    have fr : (hi * 18446744073709551616 + lo) % y = m * 4294967296 + u0 - q0 * y := by
      rw [key, Int.mul_add_emod_self_left, Int.emod_eq_of_lt ry.1 ry.2]
    unfold divV
    rw [h2, h3, eq, er, fq, fr]
    rfl
end Go.Proofs.YtdahpclbjeeeiaaDoor
