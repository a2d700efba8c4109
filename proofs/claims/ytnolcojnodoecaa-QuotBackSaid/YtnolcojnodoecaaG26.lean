/-
  A digit of the quotient: the right one comes, with at most two corrections, and the rest is left.
-/
import Derived.Test.YtnolcojnodoecaaG25
import Derived.Test.YtnolcojnodoecaaG24
namespace Go.Proofs.Ytnolcojnodoecaa
open Go.KRun Go.Wd
set_option maxRecDepth 100000

theorem snoc_of {l : List Int} {k : Nat} (h : l.length = k + 1) : ∃ a x, l = a ++ [x] ∧ a.length = k := by
  have hne : l ≠ [] := fun e => by rw [e] at h; simp at h
  exact ⟨l.dropLast, l.getLast hne, (List.dropLast_concat_getLast hne).symm, by rw [List.length_dropLast]; omega⟩
theorem getD_snoc (a : List Int) (x : Int) (m : List Int) {k : Nat} (h : a.length = k) : (a ++ x :: m).getD k 0 = x := by
  subst h
  simp
theorem gs_spec {h l dt R d0 p0 : Int} (hh : word h) (hl : word l) (hd : 9223372036854775808 ≤ dt ∧ dt < 18446744073709551616) (hR : 0 < R) (hd0 : 0 ≤ d0 ∧ d0 < R) (hp0 : 0 ≤ p0 ∧ p0 < R)
    (hP : (h * 18446744073709551616 + l) * R + p0 < 18446744073709551616 * (dt * R + d0)) :
    word (gs h l dt) ∧ 0 ≤ ((h * 18446744073709551616 + l) * R + p0) / (dt * R + d0) ∧ ((h * 18446744073709551616 + l) * R + p0) / (dt * R + d0) ≤ gs h l dt ∧ gs h l dt ≤ ((h * 18446744073709551616 + l) * R + p0) / (dt * R + d0) + 2 := by
  unfold word at *
  have hN : 0 ≤ (h * 18446744073709551616 + l) * R := Int.mul_nonneg (by omega) (by omega)
  have hD : 0 < dt * R := Int.mul_pos (by omega) hR
  have hq0 : 0 ≤ ((h * 18446744073709551616 + l) * R + p0) / (dt * R + d0) := Int.ediv_nonneg (by omega) (by omega)
  obtain ⟨g1, g2⟩ := guess_low (B := 18446744073709551616) hR (by omega) hd0.1 hp0.2 hq0 hP
  have gu : gs h l dt ≤ (h * 18446744073709551616 + l) / dt := by
    unfold gs
    split
    · refine Int.le_ediv_of_mul_le (by omega) ?_
      omega
    · exact Int.le_refl _
  have g3 := guess_high (B := 18446744073709551616) hR (by omega) (by omega) hd0.2 hp0.1 hP hd0.1 gu
  have gl : ((h * 18446744073709551616 + l) * R + p0) / (dt * R + d0) ≤ gs h l dt := by
    unfold gs
    split
    · omega
    · exact g1
  refine ⟨⟨by omega, ?_⟩, hq0, gl, g3⟩
  unfold gs
  split
  · omega
  · exact Int.ediv_lt_of_lt_mul (by omega) (by omega)
theorem pow_posB (n : Nat) : (0 : Int) < 18446744073709551616 ^ n := Int.pow_pos (by omega)
theorem ne_ok {a : Int} (h : a = 1) : (a != 0, true).1 = (a != 0, true).2 := by subst h; rfl
theorem eq_ok {a : Int} (h : a = 0) : (a != 0, false).1 = (a != 0, false).2 := by subst h; rfl
theorem tk_spec {k : Nat} {ys ps : List Int} (ly : ys.length = k + 1) (lp : ps.length = k + 2) (wy : words ys) (wp : words ps) (top : 9223372036854775808 ≤ ys.getD k 0) (hlt : vB ps < 18446744073709551616 * vB ys) :
    ∃ c, c < 3 ∧ tkD (k + 1) c ys ps = vB ps / vB ys ∧ words (tkO (k + 1) c ys ps) ∧ (tkO (k + 1) c ys ps).length = k + 2 ∧ vB (tkO (k + 1) c ys ps) = vB ps % vB ys ∧ okLog (tkG (k + 1) c ys ps) := by
  obtain ⟨d0s, dt, ey, l0⟩ := snoc_of ly
  obtain ⟨p1s, h, ep, l1⟩ := snoc_of lp
  obtain ⟨p0s, l, ep1, l2⟩ := snoc_of l1
  have ep' : ps = p0s ++ l :: [h] := by rw [ep, ep1, List.append_assoc]; rfl
  have wdt : word dt := wy dt (by rw [ey]; simp)
  have wh : word h := wp h (by rw [ep]; simp)
  have wl' : word l := wp l (by rw [ep']; simp)
  have g1 : ys.getD k 0 = dt := by rw [ey]; exact getD_snoc d0s dt [] l0
  have g2 : ps.getD (k + 1) 0 = h := by rw [ep]; exact getD_snoc p1s h [] l1
  have g3 : ps.getD k 0 = l := by rw [ep']; exact getD_snoc p0s l [h] l2
  rw [g1] at top
  have eG : gsL (k + 1) ys ps = gs h l dt := by unfold gsL; rw [Nat.add_sub_cancel, g1, g2, g3]
  have eK : gokL (k + 1) ys ps = gok h l dt := by unfold gokL; rw [Nat.add_sub_cancel, g1, g2, g3]
  have hg : (gok h l dt).1 = (gok h l dt).2 := decide_eq_true ⟨wh, wl', top, wdt.2⟩
  have bd0 := vB_bd d0s (fun x hx => wy x (by rw [ey]; exact List.mem_append_left _ hx))
  have bp0 := vB_bd p0s (fun x hx => wp x (by rw [ep']; exact List.mem_append_left _ hx))
  have vy : vB ys = dt * 18446744073709551616 ^ k + vB d0s := by
    rw [ey, vB_append, l0]
    simp only [vB]
    rw [Int.mul_zero, Int.add_zero, Int.mul_comm dt]
    omega
  have vp : vB ps = (h * 18446744073709551616 + l) * 18446744073709551616 ^ k + vB p0s := by
    rw [ep', vB_append, l2]
    simp only [vB]
    rw [Int.mul_zero, Int.add_zero, Int.mul_comm _ (18446744073709551616 ^ k), Int.mul_comm h, Int.add_comm l]
    omega
  rw [l0] at bd0
  rw [l2] at bp0
  obtain ⟨wG, q0, qG, Gq⟩ := gs_spec wh wl' ⟨top, wdt.2⟩ (pow_posB k) bd0 bp0 (by rw [← vy, ← vp]; exact hlt)
  rw [← vy, ← vp] at q0 qG Gq
  rw [← eG] at wG qG Gq
  rw [← eK] at hg
  have by_ := vB_bd ys wy
  have bp := vB_bd ps wp
  have hyp : 0 < vB ys := by
    rw [vy]
    have := Int.mul_pos (show 0 < dt by omega) (pow_posB k)
    omega
  have hLs : okLog [gokL (k + 1) ys ps, yes] := okCons hg (okL1 yes_ok)
  have w0 : word 0 := by unfold word; omega
  obtain ⟨a1, a2, a3, a4, a5⟩ := off_spec wG ys ps 0 0 [gokL (k + 1) ys ps, yes] wy wp (by omega) w0 (by omega) hLs
  have b0 := vB_bd _ a1
  have dm := Int.mul_ediv_add_emod (vB ps) (vB ys)
  have r0 := Int.emod_nonneg (vB ps) (show vB ys ≠ 0 by omega)
  have r1 := Int.emod_lt_of_pos (vB ps) hyp
  have kK : vB ys < 18446744073709551616 ^ ps.length := by
    have : (18446744073709551616 : Int) ^ ps.length = 18446744073709551616 ^ ys.length * 18446744073709551616 := by rw [lp, ly, ← Int.pow_succ]
    rw [this]
    have := pow_posB ys.length
    omega
  rw [a2] at b0
  generalize hK : (18446744073709551616 : Int) ^ ps.length = K at *
  generalize hq : vB ps / vB ys = q at *
  generalize hr : vB ps % vB ys = r at *
  have hj : gsL (k + 1) ys ps = q ∨ gsL (k + 1) ys ps = q + 1 ∨ gsL (k + 1) ys ps = q + 2 := by omega
  rcases hj with hj | hj | hj
  · have e : vB (offL (gsL (k + 1) ys ps) ys ps 0 0) = r + K * offB (gsL (k + 1) ys ps) ys ps 0 0 := by rw [a5, hj]; omega
    have ob : offB (gsL (k + 1) ys ps) ys ps 0 0 = 0 := by
      rcases a3 with h | h
      · exact h
      · rw [h] at e; omega
    refine ⟨0, by omega, hj, a1, by show (ps0 (k + 1) ys ps).length = k + 2; unfold ps0; omega, ?_, ?_⟩
    · show vB (ps0 (k + 1) ys ps) = r
      unfold ps0
      rw [e, ob]; omega
    · exact okCons (eq_ok ob) a4
  · have e : vB (offL (gsL (k + 1) ys ps) ys ps 0 0) = r - vB ys + K * offB (gsL (k + 1) ys ps) ys ps 0 0 := by rw [a5, hj, Int.mul_add, Int.mul_one]; omega
    have ob : offB (gsL (k + 1) ys ps) ys ps 0 0 = 1 := by
      rcases a3 with h | h
      · rw [h] at e; omega
      · exact h
    rw [ob] at e
    obtain ⟨c1, c2, c3, c4, c5⟩ := put_spec ys (ps0 (k + 1) ys ps) 0 ((offB (gsL (k + 1) ys ps) ys ps 0 0 != 0, true) :: offG (gsL (k + 1) ys ps) ys ps 0 0 [gokL (k + 1) ys ps, yes]) wy a1 (by unfold ps0; omega) (by omega) (okCons (ne_ok ob) a4)
    have d0 := vB_bd _ c1
    have lk : (ps0 (k + 1) ys ps).length = ps.length := a2
    rw [c2, lk, hK] at d0
    rw [lk, hK, show vB (ps0 (k + 1) ys ps) = r - vB ys + K * 1 from e] at c5
    have oc : putC ys (ps0 (k + 1) ys ps) 0 = 1 := by
      rcases c3 with h | h
      · rw [h] at c5; omega
      · exact h
    refine ⟨1, by omega, ?_, c1, by show (ps1 (k + 1) ys ps).length = k + 2; unfold ps1; omega, ?_, okCons (ne_ok oc) c4⟩
    · show IntKind.u64.wrap (gsL (k + 1) ys ps - 1) = q
      rw [wrap_u64' (by omega) (by unfold word at wG; omega)]; omega
    · show vB (ps1 (k + 1) ys ps) = r
      unfold ps1
      rw [oc] at c5; omega
  · have e : vB (offL (gsL (k + 1) ys ps) ys ps 0 0) = r - 2 * vB ys + K * offB (gsL (k + 1) ys ps) ys ps 0 0 := by rw [a5, hj, Int.mul_add]; omega
    have ob : offB (gsL (k + 1) ys ps) ys ps 0 0 = 1 := by
      rcases a3 with h | h
      · rw [h] at e; omega
      · exact h
    rw [ob] at e
    obtain ⟨c1, c2, c3, c4, c5⟩ := put_spec ys (ps0 (k + 1) ys ps) 0 ((offB (gsL (k + 1) ys ps) ys ps 0 0 != 0, true) :: offG (gsL (k + 1) ys ps) ys ps 0 0 [gokL (k + 1) ys ps, yes]) wy a1 (by unfold ps0; omega) (by omega) (okCons (ne_ok ob) a4)
    have d0 := vB_bd _ c1
    have lk : (ps0 (k + 1) ys ps).length = ps.length := a2
    rw [c2, lk, hK] at d0
    rw [lk, hK, show vB (ps0 (k + 1) ys ps) = r - 2 * vB ys + K * 1 from e] at c5
    have oc : putC ys (ps0 (k + 1) ys ps) 0 = 0 := by
      rcases c3 with h | h
      · exact h
      · rw [h] at c5; omega
    rw [oc] at c5
    obtain ⟨x1, x2, x3, x4, x5⟩ := put_spec ys (ps1 (k + 1) ys ps) 0 ((putC ys (ps0 (k + 1) ys ps) 0 != 0, false) :: putG ys (ps0 (k + 1) ys ps) 0 ((offB (gsL (k + 1) ys ps) ys ps 0 0 != 0, true) :: offG (gsL (k + 1) ys ps) ys ps 0 0 [gokL (k + 1) ys ps, yes])) wy c1 (by unfold ps1; omega) (by omega) (okCons (eq_ok oc) c4)
    have y0 := vB_bd _ x1
    have lk1 : (ps1 (k + 1) ys ps).length = ps.length := by unfold ps1; omega
    rw [x2, lk1, hK] at y0
    have e1 : vB (ps1 (k + 1) ys ps) = r - vB ys + K := by unfold ps1; omega
    rw [lk1, hK, e1] at x5
    have od : putC ys (ps1 (k + 1) ys ps) 0 = 1 := by
      rcases x3 with h | h
      · rw [h] at x5; omega
      · exact h
    refine ⟨2, by omega, ?_, x1, by show (ps2 (k + 1) ys ps).length = k + 2; unfold ps2; omega, ?_, okCons (ne_ok od) x4⟩
    · show IntKind.u64.wrap (IntKind.u64.wrap (gsL (k + 1) ys ps - 1) - 1) = q
      have : IntKind.u64.wrap (gsL (k + 1) ys ps - 1) = q + 1 := by rw [wrap_u64' (by omega) (by unfold word at wG; omega)]; omega
      rw [this, wrap_u64' (by omega) (by unfold word at wG; omega)]; omega
    · show vB (ps2 (k + 1) ys ps) = r
      unfold ps2
      rw [od] at x5; omega
end Go.Proofs.Ytnolcojnodoecaa

/-
  The pieces of wide.DivMod: a divisor of one word.
-/
namespace Go.Proofs.Ytnolcojnodoecaa
open Go.KRun Go.Wd
set_option maxRecDepth 100000

theorem rd_100 (v0 v1 v14 v15 : Value) (up d0 d1 d2 d3 r0 r1 r2 r3 r4 q0 q1 q2 q3 : Int) (a b lw : W4) (g : Nat → Value) : Rd (tabOf Try.prog extY conQW true) Try.f50 1 0 0 v0 v1 v14 v15 up d0 d1 d2 d3 r0 r1 r2 r3 r4 q0 q1 q2 q3 a b lw g := ⟨by kernel_rfl, by kernel_rfl, by kernel_rfl⟩
theorem rd_101 (v0 v1 v14 v15 : Value) (up d0 d1 d2 d3 r0 r1 r2 r3 r4 q0 q1 q2 q3 : Int) (a b lw : W4) (g : Nat → Value) : Rd (tabOf Try.prog extY conQW true) Try.f50 1 0 1 v0 v1 v14 v15 up d0 d1 d2 d3 r0 r1 r2 r3 r4 q0 q1 q2 q3 a b lw g := ⟨by kernel_rfl, by kernel_rfl, by kernel_rfl⟩
theorem rd_102 (v0 v1 v14 v15 : Value) (up d0 d1 d2 d3 r0 r1 r2 r3 r4 q0 q1 q2 q3 : Int) (a b lw : W4) (g : Nat → Value) : Rd (tabOf Try.prog extY conQW true) Try.f50 1 0 2 v0 v1 v14 v15 up d0 d1 d2 d3 r0 r1 r2 r3 r4 q0 q1 q2 q3 a b lw g := ⟨by kernel_rfl, by kernel_rfl, by kernel_rfl⟩
theorem rd_110 (v0 v1 v14 v15 : Value) (up d0 d1 d2 d3 r0 r1 r2 r3 r4 q0 q1 q2 q3 : Int) (a b lw : W4) (g : Nat → Value) : Rd (tabOf Try.prog extY conQW true) Try.f50 1 1 0 v0 v1 v14 v15 up d0 d1 d2 d3 r0 r1 r2 r3 r4 q0 q1 q2 q3 a b lw g := ⟨by kernel_rfl, by kernel_rfl, by kernel_rfl⟩
theorem rd_111 (v0 v1 v14 v15 : Value) (up d0 d1 d2 d3 r0 r1 r2 r3 r4 q0 q1 q2 q3 : Int) (a b lw : W4) (g : Nat → Value) : Rd (tabOf Try.prog extY conQW true) Try.f50 1 1 1 v0 v1 v14 v15 up d0 d1 d2 d3 r0 r1 r2 r3 r4 q0 q1 q2 q3 a b lw g := ⟨by kernel_rfl, by kernel_rfl, by kernel_rfl⟩
theorem rd_112 (v0 v1 v14 v15 : Value) (up d0 d1 d2 d3 r0 r1 r2 r3 r4 q0 q1 q2 q3 : Int) (a b lw : W4) (g : Nat → Value) : Rd (tabOf Try.prog extY conQW true) Try.f50 1 1 2 v0 v1 v14 v15 up d0 d1 d2 d3 r0 r1 r2 r3 r4 q0 q1 q2 q3 a b lw g := ⟨by kernel_rfl, by kernel_rfl, by kernel_rfl⟩
theorem rd_120 (v0 v1 v14 v15 : Value) (up d0 d1 d2 d3 r0 r1 r2 r3 r4 q0 q1 q2 q3 : Int) (a b lw : W4) (g : Nat → Value) : Rd (tabOf Try.prog extY conQW true) Try.f50 1 2 0 v0 v1 v14 v15 up d0 d1 d2 d3 r0 r1 r2 r3 r4 q0 q1 q2 q3 a b lw g := ⟨by kernel_rfl, by kernel_rfl, by kernel_rfl⟩
theorem rd_121 (v0 v1 v14 v15 : Value) (up d0 d1 d2 d3 r0 r1 r2 r3 r4 q0 q1 q2 q3 : Int) (a b lw : W4) (g : Nat → Value) : Rd (tabOf Try.prog extY conQW true) Try.f50 1 2 1 v0 v1 v14 v15 up d0 d1 d2 d3 r0 r1 r2 r3 r4 q0 q1 q2 q3 a b lw g := ⟨by kernel_rfl, by kernel_rfl, by kernel_rfl⟩
theorem rd_122 (v0 v1 v14 v15 : Value) (up d0 d1 d2 d3 r0 r1 r2 r3 r4 q0 q1 q2 q3 : Int) (a b lw : W4) (g : Nat → Value) : Rd (tabOf Try.prog extY conQW true) Try.f50 1 2 2 v0 v1 v14 v15 up d0 d1 d2 d3 r0 r1 r2 r3 r4 q0 q1 q2 q3 a b lw g := ⟨by kernel_rfl, by kernel_rfl, by kernel_rfl⟩
theorem rd_130 (v0 v1 v14 v15 : Value) (up d0 d1 d2 d3 r0 r1 r2 r3 r4 q0 q1 q2 q3 : Int) (a b lw : W4) (g : Nat → Value) : Rd (tabOf Try.prog extY conQW true) Try.f50 1 3 0 v0 v1 v14 v15 up d0 d1 d2 d3 r0 r1 r2 r3 r4 q0 q1 q2 q3 a b lw g := ⟨by kernel_rfl, by kernel_rfl, by kernel_rfl⟩
theorem rd_131 (v0 v1 v14 v15 : Value) (up d0 d1 d2 d3 r0 r1 r2 r3 r4 q0 q1 q2 q3 : Int) (a b lw : W4) (g : Nat → Value) : Rd (tabOf Try.prog extY conQW true) Try.f50 1 3 1 v0 v1 v14 v15 up d0 d1 d2 d3 r0 r1 r2 r3 r4 q0 q1 q2 q3 a b lw g := ⟨by kernel_rfl, by kernel_rfl, by kernel_rfl⟩
theorem rd_132 (v0 v1 v14 v15 : Value) (up d0 d1 d2 d3 r0 r1 r2 r3 r4 q0 q1 q2 q3 : Int) (a b lw : W4) (g : Nat → Value) : Rd (tabOf Try.prog extY conQW true) Try.f50 1 3 2 v0 v1 v14 v15 up d0 d1 d2 d3 r0 r1 r2 r3 r4 q0 q1 q2 q3 a b lw g := ⟨by kernel_rfl, by kernel_rfl, by kernel_rfl⟩
end Go.Proofs.Ytnolcojnodoecaa
