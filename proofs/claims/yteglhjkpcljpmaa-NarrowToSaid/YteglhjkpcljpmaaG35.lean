/-
  What To and From of patterns of 32 bits answer, in plain terms.
-/
import Derived.Test.YteglhjkpcljpmaaG14
import Derived.Test.YteglhjkpcljpmaaG17
import Derived.Test.YteglhjkpcljpmaaG34
import Derived.Test.YteglhjkpcljpmaaG19
namespace Go.Proofs.Yteglhjkpcljpmaa
open Go.KRun Go.Wd Go.Pt Go.Rn
set_option maxRecDepth 100000

theorem na_fin {p : Int} (h : cl p ≤ 2) (m : Int) : naP m p = s3 (sgn p) (rnPN m (sgn p) (sg p).toNat (xp p)) ∧ naF m p = rnFN m (sgn p) (sg p).toNat (xp p) := by
  unfold naP naF
  rw [if_neg (by omega), if_neg (by omega), if_neg (by omega), if_neg (by omega)]
  exact ⟨rfl, rfl⟩
theorem na_inf {p : Int} (h : cl p = 3) (m : Int) : naP m p = s3 (sgn p) 2139095040 ∧ naF m p = 0 := by
  unfold naP naF
  rw [if_neg (by omega), if_pos h, if_neg (by omega), if_pos h]
  exact ⟨rfl, rfl⟩
theorem na_nan {p : Int} (h : 3 < cl p) (m : Int) : naP m p = 2143289344 ∧ naF m p = if cl p = 5 then 1 else 0 := by
  unfold naP naF
  rw [if_pos h, if_pos h]
  exact ⟨rfl, rfl⟩
theorem rnF_orN (m : Int) (n : Bool) (T : Nat) (E : Int) : rnFN m n T E = 0 ∨ rnFN m n T E = 16 ∨ rnFN m n T E = 20 ∨ rnFN m n T E = 24 := by
  unfold rnFN
  split
  · exact .inl rfl
  · split
    · exact .inr (.inr (.inl rfl))
    · split
      · split
        · exact .inr (.inr (.inr rfl))
        · exact .inr (.inl rfl)
      · exact .inl rfl
theorem naF_bd (m p : Int) : 0 ≤ naF m p ∧ naF m p ≤ 24 := by
  unfold naF
  split
  · split <;> omega
  · split
    · omega
    · have := rnF_orN m (sgn p) (sg p).toNat (xp p)
      omega
/-- From, of what is a number -/
theorem nf_sS {q : Int} (hx : ex3 q ≠ 255) : nfP q = sS (sgn3 q) (rnP 0 false (sg3 q).toNat (xp3 q)) := by
  have h := ex3_fin.1 hx
  unfold nfP sS
  rw [if_neg (by omega), if_neg (by omega)]
  split <;> omega
theorem nf_U {q : Int} : U (nfP q) := by
  by_cases hx : ex3 q ≠ 255
  · obtain ⟨_, _, r0, r1, _⟩ := fu_num hx 0 false
    rw [nf_sS hx]
    exact (sS_mag r0 (by omega)).2.2.1
  · have h : ¬ mag3 q < 2139095040 := fun h => hx (ex3_fin.2 h)
    unfold nfP U
    split
    · omega
    · rw [if_pos (by omega)]
      split <;> omega
/-- there and back -/
theorem na_there {q : Int} (hq : U3 q) (h : mag3 q ≤ 2139095040) (m : Int) : nfF q = 0 ∧ naP m (nfP q) = q ∧ naF m (nfP q) = 0 := by
  refine ⟨by unfold nfF; rw [if_neg (by omega)], ?_⟩
  by_cases hx : ex3 q ≠ 255
  · obtain ⟨_, _, r0, r1, hu⟩ := fu_num hx 0 false
    obtain ⟨m1, m2, _, m4⟩ := sS_mag (n := sgn3 q) r0 (show rnP 0 false (sg3 q).toNat (xp3 q) < 9223372036854775808 by omega)
    rw [nf_sS hx]
    have hc : cl (sS (sgn3 q) (rnP 0 false (sg3 q).toNat (xp3 q))) ≤ 2 := (mag_cl _).2.2.2 (by omega)
    obtain ⟨e1, e2⟩ := na_fin hc m
    obtain ⟨b1, b2⟩ := na_back hx (m4.trans hu) m (sgn3 q)
    rw [e1, e2, m2, b1, b2]
    exact ⟨s3_own hq, rfl⟩
  · have h1 : ¬ mag3 q < 2139095040 := fun h => hx (ex3_fin.2 h)
    have h2 : mag3 q = 2139095040 := by omega
    have e : nfP q = sS (sgn3 q) 9218868437227405312 := by
      unfold nfP sS
      rw [if_neg (by omega), if_pos h2]
      split <;> rfl
    obtain ⟨m1, m2, _, _⟩ := sS_mag (n := sgn3 q) (r := 9218868437227405312) (by omega) (by omega)
    have hc : cl (sS (sgn3 q) 9218868437227405312) = 3 := (mag_cl _).2.1.2 m1
    obtain ⟨e1, e2⟩ := na_inf hc m
    rw [e, e1, e2, m2, ← h2]
    exact ⟨s3_own hq, rfl⟩
theorem na_none {q : Int} (h : 2139095040 < mag3 q) (m : Int) : nfP q = 9221120237041090560 ∧ naP m (nfP q) = 2143289344 := by
  have e : nfP q = 9221120237041090560 := by unfold nfP; rw [if_pos h]
  refine ⟨e, ?_⟩
  rw [e]
  exact (na_nan (by decide) m).1
/-- by Down and Up -/
theorem na_between {p : Int} (hp : sgn p = false) (h : cl p ≤ 3) : (naP 3 p = naP 4 p ∧ naF 3 p = 0 ∧ naF 4 p = 0) ∨ (naP 3 p = naP 4 p + 1 ∧ 0 ≤ naP 4 p ∧ naP 4 p ≤ 2139095040 ∧ (naF 3 p = 16 ∨ naF 3 p = 20 ∨ naF 3 p = 24) ∧ (naF 4 p = 16 ∨ naF 4 p = 20 ∨ naF 4 p = 24)) := by
  by_cases c3 : cl p = 3
  · obtain ⟨a1, a2⟩ := na_inf c3 3
    obtain ⟨b1, b2⟩ := na_inf c3 4
    exact .inl ⟨a1.trans b1.symm, a2, b2⟩
  · obtain ⟨a1, a2⟩ := na_fin (p := p) (by omega) 3
    obtain ⟨b1, b2⟩ := na_fin (p := p) (by omega) 4
    rw [a1, a2, b1, b2, hp]
    have rb := rnP_bdN 4 false (sg p).toNat (xp p)
    have es : ∀ r, s3 false r = r := fun r => by unfold s3; rw [if_neg (by decide)]
    rw [es, es]
    rcases na_sides (sg p).toNat (xp p) with ⟨x1, x2, x3⟩ | ⟨x1, x2, x3⟩
    · exact .inl ⟨x1, x2, x3⟩
    · exact .inr ⟨x1, rb.1, rb.2, x2, x3⟩
/-- with the other sign, and the modes of the sides changed -/
theorem same_parts (n k : Bool) (r : Int) : cl (sS n r) = cl (sS k r) ∧ sg (sS n r) = sg (sS k r) ∧ xp (sS n r) = xp (sS k r) := by
  have e : ex (sS n r) = ex (sS k r) ∧ fr (sS n r) = fr (sS k r) := by
    unfold ex fr sS
    split <;> split <;> omega
  unfold cl sg xp
  rw [e.1, e.2]
  exact ⟨rfl, rfl, rfl⟩
theorem na_other {x : Int} (h0 : 0 ≤ x) (h1 : x < 9223372036854775808) (m : Int) : naF (swM m) (sS true x) = naF m x ∧ (cl x ≤ 3 → naP (swM m) (sS true x) = naP m x + 2147483648 ∧ 0 ≤ naP m x ∧ naP m x ≤ 2139095040) := by
  have ex : sS false x = x := by unfold sS; simp
  obtain ⟨c1, c2, c3⟩ := same_parts true false x
  rw [ex] at c1 c2 c3
  have s1 := (sS_mag (n := true) h0 h1).2.1
  have s2 := (sS_mag (n := false) h0 h1).2.1
  rw [ex] at s2
  have e0 : ∀ r, s3 false r = r := fun r => by unfold s3; rw [if_neg (by decide)]
  have e1 : ∀ r, s3 true r = r + 2147483648 := fun r => by unfold s3; rw [if_pos rfl]
  by_cases h3 : 3 < cl x
  · obtain ⟨_, a2⟩ := na_nan h3 m
    obtain ⟨_, b2⟩ := na_nan (p := sS true x) (by omega) (swM m)
    rw [a2, b2, c1]
    exact ⟨rfl, fun h => by omega⟩
  by_cases h4 : cl x = 3
  · obtain ⟨a1, a2⟩ := na_inf h4 m
    obtain ⟨b1, b2⟩ := na_inf (p := sS true x) (by omega) (swM m)
    rw [a1, a2, b1, b2, s1, s2, e0, e1]
    exact ⟨rfl, fun _ => ⟨rfl, by omega, by omega⟩⟩
  · obtain ⟨a1, a2⟩ := na_fin (p := x) (by omega) m
    obtain ⟨b1, b2⟩ := na_fin (p := sS true x) (by omega) (swM m)
    have w1 := rnP_swMN m false (sg x).toNat (xp x)
    have w2 := rnF_swMN m false (sg x).toNat (xp x)
    simp only [Bool.not_false] at w1 w2
    rw [a1, a2, b1, b2, s1, s2, e0, e1, c2, c3, w1, w2]
    have rb := rnP_bdN m false (sg x).toNat (xp x)
    exact ⟨rfl, fun _ => ⟨rfl, rb.1, rb.2⟩⟩
/-- the greater one never becomes a less one -/
theorem na_order {x y : Int} (h0 : 0 ≤ x) (h : x ≤ y) (hy : y ≤ 9218868437227405312) (m : Int) : naP m x ≤ naP m y := by
  have sx : sgn x = false := decide_eq_false (by omega)
  have sy : sgn y = false := decide_eq_false (by omega)
  have mx : mag x = x := by unfold mag; omega
  have my : mag y = y := by unfold mag; omega
  have e0 : ∀ r, s3 false r = r := fun r => by unfold s3; rw [if_neg (by decide)]
  by_cases y3 : y = 9218868437227405312
  · have cy : cl y = 3 := (mag_cl y).2.1.2 (my.trans y3)
    rw [(na_inf cy m).1, sy, e0]
    by_cases x3 : cl x = 3
    · rw [(na_inf x3 m).1, sx, e0]
      exact Int.le_refl _
    · have cx : cl x ≤ 2 := by
        have := (mag_cl x).1
        have := (mag_cl x).2.1
        have hb := cl_bd x
        have : ¬ 3 < cl x := fun hh => by have := (mag_cl x).1.1 hh; omega
        omega
      rw [(na_fin cx m).1, sx, e0]
      exact (rnP_bdN m false (sg x).toNat (xp x)).2
  · have cx : cl x ≤ 2 := (mag_cl x).2.2.2 (by omega)
    have cy : cl y ≤ 2 := (mag_cl y).2.2.2 (by omega)
    rw [(na_fin cx m).1, (na_fin cy m).1, sx, sy, e0, e0]
    exact na_mono h0 h (by omega) m
end Go.Proofs.Yteglhjkpcljpmaa

/-
  The document's From of patterns of 32 bits (tillerref12.From), as a call in every world; what the laws call.
-/
namespace Go.Proofs.Yteglhjkpcljpmaa
open Go.KRun Go.Nt Go.Wd Go.Pt Go.Rn
set_option maxRecDepth 100000

def IQ (x : Int) : Hp := ⟨1, [w16 x.toNat]⟩
def exD (q : Int) : Int := (IntKind.u32.wrap (q.tdiv 8388608)).tmod 256
def frD (q : Int) : Int := q.tmod 8388608
theorem exD_eq {q : Int} (hq : U3 q) : exD q = ex3 q := by
  have h0 := hq.1
  have h1 := hq.2
  unfold exD ex3
  rw [Int.tdiv_eq_ediv_of_nonneg h0, wrap3, Int.tmod_eq_emod_of_nonneg (by omega)]
  omega
theorem frD_eq {q : Int} (hq : U3 q) : frD q = fr3 q := by
  unfold frD fr3
  rw [Int.tmod_eq_emod_of_nonneg hq.1]
theorem okRo_N {x E : Int} (h0 : 0 ≤ x) (h1 : x < 18446744073709551616) (e0 : -400000 ≤ E) (e1 : E ≤ 400000) : okRo (IQ x) (aP16 0) (d16 x.toNat).length (d16 x.toNat).length E = true := by
  have e64 : (2 : Nat) ^ (16 * 4) = 18446744073709551616 := rfl
  have l1 := d16_len (A := x.toNat) (k := 4) (by omega)
  unfold okRo aP16
  rw [rowP_d16 (A := x.toNat) rfl (by omega), rowOf_d16 (A := x.toNat) rfl, show canB (d16 x.toNat) = true from canB_mk (can_db (by omega) _), blt_iff.2 (by omega), decide_eq_true ⟨by omega, by omega⟩]
  rfl
theorem df_l (q : Int) (s : Bool) : Fits (reckon (tabH Try.prog extY conNG hcNG) 300 11 [.int .u32 q] [cmp s, cmp false, cmp false, cmp true, cmp true, cmp true]) (.tuple #[.int .u64 9221120237041090560, .int .i64 1]) [(decide (frD q < 4194304), true), (decide (frD q > 0), true), (exD q == 255, true), (decide ((8388608 : Int) = 0), false), (decide ((256 : Int) = 0), false), (decide (q ≥ 2147483648), s)] := ⟨by kernel_rfl, by kernel_rfl, by kernel_rfl, by kernel_rfl⟩
theorem df_q (q : Int) (s : Bool) : Fits (reckon (tabH Try.prog extY conNG hcNG) 300 11 [.int .u32 q] [cmp s, cmp false, cmp false, cmp true, cmp true, cmp false]) (.tuple #[.int .u64 9221120237041090560, .int .i64 0]) [(decide (frD q < 4194304), false), (decide (frD q > 0), true), (exD q == 255, true), (decide ((8388608 : Int) = 0), false), (decide ((256 : Int) = 0), false), (decide (q ≥ 2147483648), s)] := ⟨by kernel_rfl, by kernel_rfl, by kernel_rfl, by kernel_rfl⟩
theorem df_it (q : Int) : Fits (reckon (tabH Try.prog extY conNG hcNG) 300 11 [.int .u32 q] [cmp true, cmp false, cmp false, cmp true, cmp false, cmp true]) (.tuple #[.int .u64 18442240474082181120, .int .i64 0]) [(exD q == 255, true), (decide (frD q > 0), false), (exD q == 255, true), (decide ((8388608 : Int) = 0), false), (decide ((256 : Int) = 0), false), (decide (q ≥ 2147483648), true)] := ⟨by kernel_rfl, by kernel_rfl, by kernel_rfl, by kernel_rfl⟩
theorem df_0t (q : Int) (V : Nat) : Fits (reckon (tabH Try.prog extY conNG hcNG) 300 11 [.int .u32 q] [cmp true, cmp false, cmp false, cmp false, cmp false, cmp true, num V]) (.tuple #[.int .u64 (sS true (rnP 0 true V (-149))), .int .i64 (rnF 0 true V (-149))]) [(decide (vO (IQ (IntKind.u64.wrap (frD q))) (aP16 0) (d16 (IntKind.u64.wrap (frD q)).toNat).length = V), true), (okRo (IQ (IntKind.u64.wrap (frD q))) (aP16 0) (d16 (IntKind.u64.wrap (frD q)).toNat).length (d16 (IntKind.u64.wrap (frD q)).toNat).length (-149), true), (decide (0 ≤ (IntKind.u64.wrap (frD q)) ∧ (IntKind.u64.wrap (frD q)) < 18446744073709551616), true), (exD q == 0, true), (exD q == 255, false), (exD q == 255, false), (decide ((8388608 : Int) = 0), false), (decide ((256 : Int) = 0), false), (decide (q ≥ 2147483648), true)] := ⟨by kernel_rfl, by kernel_rfl, by kernel_rfl, by kernel_rfl⟩
theorem df_1t (q : Int) (V : Nat) : Fits (reckon (tabH Try.prog extY conNG hcNG) 300 11 [.int .u32 q] [cmp true, cmp false, cmp false, cmp false, cmp false, cmp false, num V]) (.tuple #[.int .u64 (sS true (rnP 0 true V (IntKind.i64.wrap (IntKind.i64.wrap (exD q) - 150)))), .int .i64 (rnF 0 true V (IntKind.i64.wrap (IntKind.i64.wrap (exD q) - 150)))]) [(decide (vO (IQ (IntKind.u64.wrap (IntKind.u64.wrap (frD q) + 8388608))) (aP16 0) (d16 (IntKind.u64.wrap (IntKind.u64.wrap (frD q) + 8388608)).toNat).length = V), true), (okRo (IQ (IntKind.u64.wrap (IntKind.u64.wrap (frD q) + 8388608))) (aP16 0) (d16 (IntKind.u64.wrap (IntKind.u64.wrap (frD q) + 8388608)).toNat).length (d16 (IntKind.u64.wrap (IntKind.u64.wrap (frD q) + 8388608)).toNat).length (IntKind.i64.wrap (IntKind.i64.wrap (exD q) - 150)), true), (decide (0 ≤ (IntKind.u64.wrap (IntKind.u64.wrap (frD q) + 8388608)) ∧ (IntKind.u64.wrap (IntKind.u64.wrap (frD q) + 8388608)) < 18446744073709551616), true), (exD q == 0, false), (exD q == 255, false), (exD q == 255, false), (decide ((8388608 : Int) = 0), false), (decide ((256 : Int) = 0), false), (decide (q ≥ 2147483648), true)] := ⟨by kernel_rfl, by kernel_rfl, by kernel_rfl, by kernel_rfl⟩
theorem df_if (q : Int) : Fits (reckon (tabH Try.prog extY conNG hcNG) 300 11 [.int .u32 q] [cmp false, cmp false, cmp false, cmp true, cmp false, cmp true]) (.tuple #[.int .u64 9218868437227405312, .int .i64 0]) [(exD q == 255, true), (decide (frD q > 0), false), (exD q == 255, true), (decide ((8388608 : Int) = 0), false), (decide ((256 : Int) = 0), false), (decide (q ≥ 2147483648), false)] := ⟨by kernel_rfl, by kernel_rfl, by kernel_rfl, by kernel_rfl⟩
theorem df_0f (q : Int) (V : Nat) : Fits (reckon (tabH Try.prog extY conNG hcNG) 300 11 [.int .u32 q] [cmp false, cmp false, cmp false, cmp false, cmp false, cmp true, num V]) (.tuple #[.int .u64 (sS false (rnP 0 false V (-149))), .int .i64 (rnF 0 false V (-149))]) [(decide (vO (IQ (IntKind.u64.wrap (frD q))) (aP16 0) (d16 (IntKind.u64.wrap (frD q)).toNat).length = V), true), (okRo (IQ (IntKind.u64.wrap (frD q))) (aP16 0) (d16 (IntKind.u64.wrap (frD q)).toNat).length (d16 (IntKind.u64.wrap (frD q)).toNat).length (-149), true), (decide (0 ≤ (IntKind.u64.wrap (frD q)) ∧ (IntKind.u64.wrap (frD q)) < 18446744073709551616), true), (exD q == 0, true), (exD q == 255, false), (exD q == 255, false), (decide ((8388608 : Int) = 0), false), (decide ((256 : Int) = 0), false), (decide (q ≥ 2147483648), false)] := ⟨by kernel_rfl, by kernel_rfl, by kernel_rfl, by kernel_rfl⟩
theorem df_1f (q : Int) (V : Nat) : Fits (reckon (tabH Try.prog extY conNG hcNG) 300 11 [.int .u32 q] [cmp false, cmp false, cmp false, cmp false, cmp false, cmp false, num V]) (.tuple #[.int .u64 (sS false (rnP 0 false V (IntKind.i64.wrap (IntKind.i64.wrap (exD q) - 150)))), .int .i64 (rnF 0 false V (IntKind.i64.wrap (IntKind.i64.wrap (exD q) - 150)))]) [(decide (vO (IQ (IntKind.u64.wrap (IntKind.u64.wrap (frD q) + 8388608))) (aP16 0) (d16 (IntKind.u64.wrap (IntKind.u64.wrap (frD q) + 8388608)).toNat).length = V), true), (okRo (IQ (IntKind.u64.wrap (IntKind.u64.wrap (frD q) + 8388608))) (aP16 0) (d16 (IntKind.u64.wrap (IntKind.u64.wrap (frD q) + 8388608)).toNat).length (d16 (IntKind.u64.wrap (IntKind.u64.wrap (frD q) + 8388608)).toNat).length (IntKind.i64.wrap (IntKind.i64.wrap (exD q) - 150)), true), (decide (0 ≤ (IntKind.u64.wrap (IntKind.u64.wrap (frD q) + 8388608)) ∧ (IntKind.u64.wrap (IntKind.u64.wrap (frD q) + 8388608)) < 18446744073709551616), true), (exD q == 0, false), (exD q == 255, false), (exD q == 255, false), (decide ((8388608 : Int) = 0), false), (decide ((256 : Int) = 0), false), (decide (q ≥ 2147483648), false)] := ⟨by kernel_rfl, by kernel_rfl, by kernel_rfl, by kernel_rfl⟩
theorem dfr_calls (q : Int) (hq : U3 q) (w : World) : Calls Try.prog 11 #[.int .u32 q] w fun r w' => r = .returned (.tuple #[.int .u64 (nfP q), .int .i64 (nfF q)]) ∧ Tidy w w' := by
  have T0 := tabH_ok conNG_ok hcNG_ok
  have eE := exD_eq hq
  have eF := frD_eq hq
  have hm := mag3_eq q
  have eb := ex3_bd q
  have fb := fr3_bd q
  by_cases he : ex3 q = 255
  · by_cases hf : 0 < fr3 q
    · have e1 : nfP q = 9221120237041090560 := by unfold nfP; rw [if_pos (by omega)]
      obtain ⟨s, hs⟩ : ∃ s, decide (q ≥ 2147483648) = s := ⟨_, rfl⟩
      by_cases hl : fr3 q < 4194304
      · have e2 : nfF q = 1 := by unfold nfF; rw [if_pos ⟨by omega, by omega⟩]
        rw [e1, e2]
        exact fits_calls T0 (df_l q s) (okCons (decide_eq_true (by rw [eF]; omega)) (okCons (decide_eq_true (by rw [eF]; omega)) (okCons (beq_t (by rw [eE]; omega)) (okCons (by decide) (okCons (by decide) (okL1 hs)))))) (by rfl) (by rfl) w
      · have e2 : nfF q = 0 := by unfold nfF; rw [if_neg (by omega)]
        rw [e1, e2]
        exact fits_calls T0 (df_q q s) (okCons (decide_eq_false (by rw [eF]; omega)) (okCons (decide_eq_true (by rw [eF]; omega)) (okCons (beq_t (by rw [eE]; omega)) (okCons (by decide) (okCons (by decide) (okL1 hs)))))) (by rfl) (by rfl) w
    · have hi : mag3 q = 2139095040 := by omega
      have e2 : nfF q = 0 := by unfold nfF; rw [if_neg (by omega)]
      have e1 : nfP q = if sgn3 q = true then 18442240474082181120 else 9218868437227405312 := by
        unfold nfP
        rw [if_neg (by omega), if_pos hi]
      rw [e1, e2]
      cases hs0 : sgn3 q with
      | true =>
        have hs : decide (q ≥ 2147483648) = true := hs0
        rw [if_pos rfl]
        exact fits_calls T0 (df_it q) (okCons (beq_t (by rw [eE]; omega)) (okCons (decide_eq_false (by rw [eF]; omega)) (okCons (beq_t (by rw [eE]; omega)) (okCons (by decide) (okCons (by decide) (okL1 hs)))))) (by rfl) (by rfl) w
      | false =>
        have hs : decide (q ≥ 2147483648) = false := hs0
        rw [if_neg (by decide)]
        exact fits_calls T0 (df_if q) (okCons (beq_t (by rw [eE]; omega)) (okCons (decide_eq_false (by rw [eF]; omega)) (okCons (beq_t (by rw [eE]; omega)) (okCons (by decide) (okCons (by decide) (okL1 hs)))))) (by rfl) (by rfl) w
  have e2 : nfF q = 0 := by
    have := ex3_fin.1 he
    unfold nfF
    rw [if_neg (by omega)]
  rw [e2, nf_sS he]
  cases hs0 : sgn3 q with
  | true =>
    have hs : decide (q ≥ 2147483648) = true := hs0
    obtain ⟨f1, f2, _, _, _⟩ := fu_num he 0 true
    by_cases hz : ex3 q = 0
    · have ex : (IntKind.u64.wrap (frD q)) = sg3 q := by
        unfold sg3
        rw [if_pos hz, eF, wrapU]
        omega
      have eX : xp3 q = -149 := by unfold xp3; rw [if_pos hz]
      have hf := df_0t q (sg3 q).toNat
      have sb := sg3_bd q
      rw [ex] at hf
      rw [← eX, f1, f2] at hf
      have hV : (sg3 q).toNat = (sg3 q).toNat := rfl
      have xb := xp3_bd q
      have kr := okRo_N (x := sg3 q) (E := xp3 q) (by omega) (by omega) (by omega) (by omega)
      have kx : decide (0 ≤ sg3 q ∧ sg3 q < 18446744073709551616) = true := decide_eq_true ⟨by omega, by omega⟩
      exact fits_calls T0 hf (okCons (decide_eq_true ((vO_aP (V := _) rfl).trans hV)) (okCons kr (okCons kx (okCons (beq_t (by rw [eE]; omega)) (okCons (beq_f (by rw [eE]; omega)) (okCons (beq_f (by rw [eE]; omega)) (okCons (by decide) (okCons (by decide) (okL1 hs))))))))) (by rfl) (by rfl) w
    · have ex : (IntKind.u64.wrap (IntKind.u64.wrap (frD q) + 8388608)) = sg3 q := by
        unfold sg3
        rw [if_neg hz, eF, wrapU, wrapU]
        omega
      have eX : (IntKind.i64.wrap (IntKind.i64.wrap (exD q) - 150)) = xp3 q := by
        unfold xp3
        rw [if_neg hz, eE, wrapI' (n := ex3 q) ⟨by omega, by omega⟩, wrapI' ⟨by omega, by omega⟩]
      have hf := df_1t q (sg3 q).toNat
      have sb := sg3_bd q
      rw [ex, eX, f1, f2] at hf
      have hV : (sg3 q).toNat = (sg3 q).toNat := rfl
      have xb := xp3_bd q
      have kr := okRo_N (x := sg3 q) (E := xp3 q) (by omega) (by omega) (by omega) (by omega)
      have kx : decide (0 ≤ sg3 q ∧ sg3 q < 18446744073709551616) = true := decide_eq_true ⟨by omega, by omega⟩
      exact fits_calls T0 hf (okCons (decide_eq_true ((vO_aP (V := _) rfl).trans hV)) (okCons kr (okCons kx (okCons (beq_f (by rw [eE]; omega)) (okCons (beq_f (by rw [eE]; omega)) (okCons (beq_f (by rw [eE]; omega)) (okCons (by decide) (okCons (by decide) (okL1 hs))))))))) (by rfl) (by rfl) w
  | false =>
    have hs : decide (q ≥ 2147483648) = false := hs0
    obtain ⟨f1, f2, _, _, _⟩ := fu_num he 0 false
    by_cases hz : ex3 q = 0
    · have ex : (IntKind.u64.wrap (frD q)) = sg3 q := by
        unfold sg3
        rw [if_pos hz, eF, wrapU]
        omega
      have eX : xp3 q = -149 := by unfold xp3; rw [if_pos hz]
      have hf := df_0f q (sg3 q).toNat
      have sb := sg3_bd q
      rw [ex] at hf
      rw [← eX, f1, f2] at hf
      have hV : (sg3 q).toNat = (sg3 q).toNat := rfl
      have xb := xp3_bd q
      have kr := okRo_N (x := sg3 q) (E := xp3 q) (by omega) (by omega) (by omega) (by omega)
      have kx : decide (0 ≤ sg3 q ∧ sg3 q < 18446744073709551616) = true := decide_eq_true ⟨by omega, by omega⟩
      exact fits_calls T0 hf (okCons (decide_eq_true ((vO_aP (V := _) rfl).trans hV)) (okCons kr (okCons kx (okCons (beq_t (by rw [eE]; omega)) (okCons (beq_f (by rw [eE]; omega)) (okCons (beq_f (by rw [eE]; omega)) (okCons (by decide) (okCons (by decide) (okL1 hs))))))))) (by rfl) (by rfl) w
    · have ex : (IntKind.u64.wrap (IntKind.u64.wrap (frD q) + 8388608)) = sg3 q := by
        unfold sg3
        rw [if_neg hz, eF, wrapU, wrapU]
        omega
      have eX : (IntKind.i64.wrap (IntKind.i64.wrap (exD q) - 150)) = xp3 q := by
        unfold xp3
        rw [if_neg hz, eE, wrapI' (n := ex3 q) ⟨by omega, by omega⟩, wrapI' ⟨by omega, by omega⟩]
      have hf := df_1f q (sg3 q).toNat
      have sb := sg3_bd q
      rw [ex, eX, f1, f2] at hf
      have hV : (sg3 q).toNat = (sg3 q).toNat := rfl
      have xb := xp3_bd q
      have kr := okRo_N (x := sg3 q) (E := xp3 q) (by omega) (by omega) (by omega) (by omega)
      have kx : decide (0 ≤ sg3 q ∧ sg3 q < 18446744073709551616) = true := decide_eq_true ⟨by omega, by omega⟩
      exact fits_calls T0 hf (okCons (decide_eq_true ((vO_aP (V := _) rfl).trans hV)) (okCons kr (okCons kx (okCons (beq_f (by rw [eE]; omega)) (okCons (beq_f (by rw [eE]; omega)) (okCons (beq_f (by rw [eE]; omega)) (okCons (by decide) (okCons (by decide) (okL1 hs))))))))) (by rfl) (by rfl) w
def gDTn : Ans := fun vals s =>
  match vals with
  | [.int .u64 p, .int .i64 m] => some (T2 (naP m p) (naF m p), s, [(decide (U p), true)])
  | _ => none
theorem gDTn_ok : AnsOk 8 gDTn := by
  intro vals s v s' lg h hl w
  unfold gDTn at h
  split at h
  · cases h
    exact dto_calls _ _ (of_decide_eq_true (hl _ (List.mem_singleton.2 rfl))) w
  · cases h
def gDFn : Ans := fun vals s =>
  match vals with
  | [.int .u32 q] => some (.tuple #[.int .u64 (nfP q), .int .i64 (nfF q)], s, [(decide (U3 q), true)])
  | _ => none
theorem gDFn_ok : AnsOk 11 gDFn := by
  intro vals s v s' lg h hl w
  unfold gDFn at h
  split at h
  · cases h
    exact dfr_calls _ (of_decide_eq_true (hl _ (List.mem_singleton.2 rfl))) w
  · cases h
end Go.Proofs.Yteglhjkpcljpmaa

/-
  What the laws of patterns of 32 bits call, the document's among them.
-/
namespace Go.Proofs.Yteglhjkpcljpmaa
open Go.KRun Go.Wd Go.Pt Go.Rn
set_option maxRecDepth 100000

def conNH : Con := alt 8 gDTn (alt 11 gDFn conNF)
theorem conNH_ok : ConOk conNH := alt_ok Try.func8 rfl gDTn_ok (alt_ok Try.func11 rfl gDFn_ok conNF_ok)
end Go.Proofs.Yteglhjkpcljpmaa
