/-
  ConQ7, ConQ4, ConQ5, ConQ6, ConQ8, ConQ9, ConQA, ConQB, ConQC, FiA, NumFa, NumFb, NumFc
-/
import Derived.Test.YtjkgnbdeklploaaGreatDoorG27
namespace Go.Proofs.YtjkgnbdeklploaaGreatDoor
open Go.KRun Go.Wd
set_option maxRecDepth 100000
theorem snoc_of {l : List Int} {k : Nat} (h : l.length = k + 1) : ∃ a x, l = a ++ [x] ∧ a.length = k := by
  have hne : l ≠ [] := fun e => by rw [e] at h; simp at h
  exact ⟨l.dropLast, l.getLast hne, (List.dropLast_concat_getLast hne).symm, by rw [List.length_dropLast]; omega⟩
theorem getD_snoc (a : List Int) (x : Int) (m : List Int) {k : Nat} (h : a.length = k) : (a ++ x :: m).getD k 0 = x := by
  subst h
  simp
theorem gs_spec {h l dt R d0 p0 : Int} (hh : word h) (hl : word l) (hd : 9223372036854775808 ≤ dt ∧ dt < 18446744073709551616) (hR : 0 < R) (hd0 : 0 ≤ d0 ∧ d0 < R) (hp0 : 0 ≤ p0 ∧ p0 < R)
    (hP : (h * 18446744073709551616 + l) * R + p0 < 18446744073709551616 * (dt * R + d0)) :
    word (gs h l dt) ∧ 0 ≤ ((h * 18446744073709551616 + l) * R + p0) / (dt * R + d0) ∧ ((h * 18446744073709551616 + l) * R + p0) / (dt * R + d0) ≤ gs h l dt ∧ gs h l dt ≤ ((h * 18446744073709551616 + l) * R + p0) / (dt * R + d0) + 2 := by
  unfold word at *
  have hN : 0 ≤ (h * 18446744073709551616 + l) * R := Int.mul_nonneg (by omega) (by omega)
  have hD : 0 < dt * R := Int.mul_pos (by omega) hR
  have hq0 : 0 ≤ ((h * 18446744073709551616 + l) * R + p0) / (dt * R + d0) := Int.ediv_nonneg (by omega) (by omega)
  obtain ⟨g1, g2⟩ := guess_low (B := 18446744073709551616) hR (by omega) hd0.1 hp0.2 hq0 hP
  have gu : gs h l dt ≤ (h * 18446744073709551616 + l) / dt := by
    unfold gs
    split
    · refine Int.le_ediv_of_mul_le (by omega) ?_
      omega
    · exact Int.le_refl _
  have g3 := guess_high (B := 18446744073709551616) hR (by omega) (by omega) hd0.2 hp0.1 hP hd0.1 gu
  have gl : ((h * 18446744073709551616 + l) * R + p0) / (dt * R + d0) ≤ gs h l dt := by
    unfold gs
    split
    · omega
    · exact g1
  refine ⟨⟨by omega, ?_⟩, hq0, gl, g3⟩
  unfold gs
  split
  · omega
  · exact Int.ediv_lt_of_lt_mul (by omega) (by omega)
theorem pow_posB (n : Nat) : (0 : Int) < 18446744073709551616 ^ n := Int.pow_pos (by omega)
theorem ne_ok {a : Int} (h : a = 1) : (a != 0, true).1 = (a != 0, true).2 := by subst h; rfl
theorem eq_ok {a : Int} (h : a = 0) : (a != 0, false).1 = (a != 0, false).2 := by subst h; rfl
theorem tk_spec {k : Nat} {ys ps : List Int} (ly : ys.length = k + 1) (lp : ps.length = k + 2) (wy : words ys) (wp : words ps) (top : 9223372036854775808 ≤ ys.getD k 0) (hlt : vB ps < 18446744073709551616 * vB ys) :
    ∃ c, c < 3 ∧ tkD (k + 1) c ys ps = vB ps / vB ys ∧ words (tkO (k + 1) c ys ps) ∧ (tkO (k + 1) c ys ps).length = k + 2 ∧ vB (tkO (k + 1) c ys ps) = vB ps % vB ys ∧ okLog (tkG (k + 1) c ys ps) := by
  obtain ⟨d0s, dt, ey, l0⟩ := snoc_of ly
  obtain ⟨p1s, h, ep, l1⟩ := snoc_of lp
  obtain ⟨p0s, l, ep1, l2⟩ := snoc_of l1
  have ep' : ps = p0s ++ l :: [h] := by rw [ep, ep1, List.append_assoc]; rfl
  have wdt : word dt := wy dt (by rw [ey]; simp)
  have wh : word h := wp h (by rw [ep]; simp)
  have wl' : word l := wp l (by rw [ep']; simp)
  have g1 : ys.getD k 0 = dt := by rw [ey]; exact getD_snoc d0s dt [] l0
  have g2 : ps.getD (k + 1) 0 = h := by rw [ep]; exact getD_snoc p1s h [] l1
  have g3 : ps.getD k 0 = l := by rw [ep']; exact getD_snoc p0s l [h] l2
  rw [g1] at top
  have eG : gsL (k + 1) ys ps = gs h l dt := by unfold gsL; rw [Nat.add_sub_cancel, g1, g2, g3]
  have eK : gokL (k + 1) ys ps = gok h l dt := by unfold gokL; rw [Nat.add_sub_cancel, g1, g2, g3]
  have hg : (gok h l dt).1 = (gok h l dt).2 := decide_eq_true ⟨wh, wl', top, wdt.2⟩
  have bd0 := vB_bd d0s (fun x hx => wy x (by rw [ey]; exact List.mem_append_left _ hx))
  have bp0 := vB_bd p0s (fun x hx => wp x (by rw [ep']; exact List.mem_append_left _ hx))
  have vy : vB ys = dt * 18446744073709551616 ^ k + vB d0s := by
    rw [ey, vB_append, l0]
    simp only [vB]
    rw [Int.mul_zero, Int.add_zero, Int.mul_comm dt]
    omega
  have vp : vB ps = (h * 18446744073709551616 + l) * 18446744073709551616 ^ k + vB p0s := by
    rw [ep', vB_append, l2]
    simp only [vB]
    rw [Int.mul_zero, Int.add_zero, Int.mul_comm _ (18446744073709551616 ^ k), Int.mul_comm h, Int.add_comm l]
    omega
  rw [l0] at bd0
  rw [l2] at bp0
  obtain ⟨wG, q0, qG, Gq⟩ := gs_spec wh wl' ⟨top, wdt.2⟩ (pow_posB k) bd0 bp0 (by rw [← vy, ← vp]; exact hlt)
  rw [← vy, ← vp] at q0 qG Gq
  rw [← eG] at wG qG Gq
  rw [← eK] at hg
  have by_ := vB_bd ys wy
  have bp := vB_bd ps wp
  have hyp : 0 < vB ys := by
    rw [vy]
    have := Int.mul_pos (show 0 < dt by omega) (pow_posB k)
    omega
  have hLs : okLog [gokL (k + 1) ys ps, yes] := okCons hg (okL1 yes_ok)
  have w0 : word 0 := by unfold word; omega
  obtain ⟨a1, a2, a3, a4, a5⟩ := off_spec wG ys ps 0 0 [gokL (k + 1) ys ps, yes] wy wp (by omega) w0 (by omega) hLs
  have b0 := vB_bd _ a1
  have dm := Int.mul_ediv_add_emod (vB ps) (vB ys)
  have r0 := Int.emod_nonneg (vB ps) (show vB ys ≠ 0 by omega)
  have r1 := Int.emod_lt_of_pos (vB ps) hyp
  have kK : vB ys < 18446744073709551616 ^ ps.length := by
    have : (18446744073709551616 : Int) ^ ps.length = 18446744073709551616 ^ ys.length * 18446744073709551616 := by rw [lp, ly, ← Int.pow_succ]
    rw [this]
    have := pow_posB ys.length
    omega
  rw [a2] at b0
  generalize hK : (18446744073709551616 : Int) ^ ps.length = K at *
  generalize hq : vB ps / vB ys = q at *
  generalize hr : vB ps % vB ys = r at *
  have hj : gsL (k + 1) ys ps = q ∨ gsL (k + 1) ys ps = q + 1 ∨ gsL (k + 1) ys ps = q + 2 := by omega
  rcases hj with hj | hj | hj
  · have e : vB (offL (gsL (k + 1) ys ps) ys ps 0 0) = r + K * offB (gsL (k + 1) ys ps) ys ps 0 0 := by rw [a5, hj]; omega
    have ob : offB (gsL (k + 1) ys ps) ys ps 0 0 = 0 := by
      rcases a3 with h | h
      · exact h
      · rw [h] at e; omega
    refine ⟨0, by omega, hj, a1, by show (ps0 (k + 1) ys ps).length = k + 2; unfold ps0; omega, ?_, ?_⟩
    · show vB (ps0 (k + 1) ys ps) = r
      unfold ps0
      rw [e, ob]; omega
    · exact okCons (eq_ok ob) a4
  · have e : vB (offL (gsL (k + 1) ys ps) ys ps 0 0) = r - vB ys + K * offB (gsL (k + 1) ys ps) ys ps 0 0 := by rw [a5, hj, Int.mul_add, Int.mul_one]; omega
    have ob : offB (gsL (k + 1) ys ps) ys ps 0 0 = 1 := by
      rcases a3 with h | h
      · rw [h] at e; omega
      · exact h
    rw [ob] at e
    obtain ⟨c1, c2, c3, c4, c5⟩ := put_spec ys (ps0 (k + 1) ys ps) 0 ((offB (gsL (k + 1) ys ps) ys ps 0 0 != 0, true) :: offG (gsL (k + 1) ys ps) ys ps 0 0 [gokL (k + 1) ys ps, yes]) wy a1 (by unfold ps0; omega) (by omega) (okCons (ne_ok ob) a4)
    have d0 := vB_bd _ c1
    have lk : (ps0 (k + 1) ys ps).length = ps.length := a2
    rw [c2, lk, hK] at d0
    rw [lk, hK, show vB (ps0 (k + 1) ys ps) = r - vB ys + K * 1 from e] at c5
    have oc : putC ys (ps0 (k + 1) ys ps) 0 = 1 := by
      rcases c3 with h | h
      · rw [h] at c5; omega
      · exact h
    refine ⟨1, by omega, ?_, c1, by show (ps1 (k + 1) ys ps).length = k + 2; unfold ps1; omega, ?_, okCons (ne_ok oc) c4⟩
    · show IntKind.u64.wrap (gsL (k + 1) ys ps - 1) = q
      rw [wrap_u64' (by omega) (by unfold word at wG; omega)]; omega
    · show vB (ps1 (k + 1) ys ps) = r
      unfold ps1
      rw [oc] at c5; omega
  · have e : vB (offL (gsL (k + 1) ys ps) ys ps 0 0) = r - 2 * vB ys + K * offB (gsL (k + 1) ys ps) ys ps 0 0 := by rw [a5, hj, Int.mul_add]; omega
    have ob : offB (gsL (k + 1) ys ps) ys ps 0 0 = 1 := by
      rcases a3 with h | h
      · rw [h] at e; omega
      · exact h
    rw [ob] at e
    obtain ⟨c1, c2, c3, c4, c5⟩ := put_spec ys (ps0 (k + 1) ys ps) 0 ((offB (gsL (k + 1) ys ps) ys ps 0 0 != 0, true) :: offG (gsL (k + 1) ys ps) ys ps 0 0 [gokL (k + 1) ys ps, yes]) wy a1 (by unfold ps0; omega) (by omega) (okCons (ne_ok ob) a4)
    have d0 := vB_bd _ c1
    have lk : (ps0 (k + 1) ys ps).length = ps.length := a2
    rw [c2, lk, hK] at d0
    rw [lk, hK, show vB (ps0 (k + 1) ys ps) = r - 2 * vB ys + K * 1 from e] at c5
    have oc : putC ys (ps0 (k + 1) ys ps) 0 = 0 := by
      rcases c3 with h | h
      · exact h
      · rw [h] at c5; omega
    rw [oc] at c5
    obtain ⟨x1, x2, x3, x4, x5⟩ := put_spec ys (ps1 (k + 1) ys ps) 0 ((putC ys (ps0 (k + 1) ys ps) 0 != 0, false) :: putG ys (ps0 (k + 1) ys ps) 0 ((offB (gsL (k + 1) ys ps) ys ps 0 0 != 0, true) :: offG (gsL (k + 1) ys ps) ys ps 0 0 [gokL (k + 1) ys ps, yes])) wy c1 (by unfold ps1; omega) (by omega) (okCons (eq_ok oc) c4)
    have y0 := vB_bd _ x1
    have lk1 : (ps1 (k + 1) ys ps).length = ps.length := by unfold ps1; omega
    rw [x2, lk1, hK] at y0
    have e1 : vB (ps1 (k + 1) ys ps) = r - vB ys + K := by unfold ps1; omega
    rw [lk1, hK, e1] at x5
    have od : putC ys (ps1 (k + 1) ys ps) 0 = 1 := by
      rcases x3 with h | h
      · rw [h] at x5; omega
      · exact h
    refine ⟨2, by omega, ?_, x1, by show (ps2 (k + 1) ys ps).length = k + 2; unfold ps2; omega, ?_, okCons (ne_ok od) x4⟩
    · show IntKind.u64.wrap (IntKind.u64.wrap (gsL (k + 1) ys ps - 1) - 1) = q
      have : IntKind.u64.wrap (gsL (k + 1) ys ps - 1) = q + 1 := by rw [wrap_u64' (by omega) (by unfold word at wG; omega)]; omega
      rw [this, wrap_u64' (by omega) (by unfold word at wG; omega)]; omega
    · show vB (ps2 (k + 1) ys ps) = r
      unfold ps2
      rw [od] at x5; omega
theorem rd_100 (v0 v1 v14 v15 : Value) (up d0 d1 d2 d3 r0 r1 r2 r3 r4 q0 q1 q2 q3 : Int) (a b lw : W4) (g : Nat → Value) : Rd (tabOf Tryz.prog extY conQW true) Tryz.f172 1 0 0 v0 v1 v14 v15 up d0 d1 d2 d3 r0 r1 r2 r3 r4 q0 q1 q2 q3 a b lw g := ⟨by kernel_rfl, by kernel_rfl, by kernel_rfl⟩
theorem rd_101 (v0 v1 v14 v15 : Value) (up d0 d1 d2 d3 r0 r1 r2 r3 r4 q0 q1 q2 q3 : Int) (a b lw : W4) (g : Nat → Value) : Rd (tabOf Tryz.prog extY conQW true) Tryz.f172 1 0 1 v0 v1 v14 v15 up d0 d1 d2 d3 r0 r1 r2 r3 r4 q0 q1 q2 q3 a b lw g := ⟨by kernel_rfl, by kernel_rfl, by kernel_rfl⟩
theorem rd_102 (v0 v1 v14 v15 : Value) (up d0 d1 d2 d3 r0 r1 r2 r3 r4 q0 q1 q2 q3 : Int) (a b lw : W4) (g : Nat → Value) : Rd (tabOf Tryz.prog extY conQW true) Tryz.f172 1 0 2 v0 v1 v14 v15 up d0 d1 d2 d3 r0 r1 r2 r3 r4 q0 q1 q2 q3 a b lw g := ⟨by kernel_rfl, by kernel_rfl, by kernel_rfl⟩
theorem rd_110 (v0 v1 v14 v15 : Value) (up d0 d1 d2 d3 r0 r1 r2 r3 r4 q0 q1 q2 q3 : Int) (a b lw : W4) (g : Nat → Value) : Rd (tabOf Tryz.prog extY conQW true) Tryz.f172 1 1 0 v0 v1 v14 v15 up d0 d1 d2 d3 r0 r1 r2 r3 r4 q0 q1 q2 q3 a b lw g := ⟨by kernel_rfl, by kernel_rfl, by kernel_rfl⟩
theorem rd_111 (v0 v1 v14 v15 : Value) (up d0 d1 d2 d3 r0 r1 r2 r3 r4 q0 q1 q2 q3 : Int) (a b lw : W4) (g : Nat → Value) : Rd (tabOf Tryz.prog extY conQW true) Tryz.f172 1 1 1 v0 v1 v14 v15 up d0 d1 d2 d3 r0 r1 r2 r3 r4 q0 q1 q2 q3 a b lw g := ⟨by kernel_rfl, by kernel_rfl, by kernel_rfl⟩
theorem rd_112 (v0 v1 v14 v15 : Value) (up d0 d1 d2 d3 r0 r1 r2 r3 r4 q0 q1 q2 q3 : Int) (a b lw : W4) (g : Nat → Value) : Rd (tabOf Tryz.prog extY conQW true) Tryz.f172 1 1 2 v0 v1 v14 v15 up d0 d1 d2 d3 r0 r1 r2 r3 r4 q0 q1 q2 q3 a b lw g := ⟨by kernel_rfl, by kernel_rfl, by kernel_rfl⟩
theorem rd_120 (v0 v1 v14 v15 : Value) (up d0 d1 d2 d3 r0 r1 r2 r3 r4 q0 q1 q2 q3 : Int) (a b lw : W4) (g : Nat → Value) : Rd (tabOf Tryz.prog extY conQW true) Tryz.f172 1 2 0 v0 v1 v14 v15 up d0 d1 d2 d3 r0 r1 r2 r3 r4 q0 q1 q2 q3 a b lw g := ⟨by kernel_rfl, by kernel_rfl, by kernel_rfl⟩
theorem rd_121 (v0 v1 v14 v15 : Value) (up d0 d1 d2 d3 r0 r1 r2 r3 r4 q0 q1 q2 q3 : Int) (a b lw : W4) (g : Nat → Value) : Rd (tabOf Tryz.prog extY conQW true) Tryz.f172 1 2 1 v0 v1 v14 v15 up d0 d1 d2 d3 r0 r1 r2 r3 r4 q0 q1 q2 q3 a b lw g := ⟨by kernel_rfl, by kernel_rfl, by kernel_rfl⟩
theorem rd_122 (v0 v1 v14 v15 : Value) (up d0 d1 d2 d3 r0 r1 r2 r3 r4 q0 q1 q2 q3 : Int) (a b lw : W4) (g : Nat → Value) : Rd (tabOf Tryz.prog extY conQW true) Tryz.f172 1 2 2 v0 v1 v14 v15 up d0 d1 d2 d3 r0 r1 r2 r3 r4 q0 q1 q2 q3 a b lw g := ⟨by kernel_rfl, by kernel_rfl, by kernel_rfl⟩
theorem rd_130 (v0 v1 v14 v15 : Value) (up d0 d1 d2 d3 r0 r1 r2 r3 r4 q0 q1 q2 q3 : Int) (a b lw : W4) (g : Nat → Value) : Rd (tabOf Tryz.prog extY conQW true) Tryz.f172 1 3 0 v0 v1 v14 v15 up d0 d1 d2 d3 r0 r1 r2 r3 r4 q0 q1 q2 q3 a b lw g := ⟨by kernel_rfl, by kernel_rfl, by kernel_rfl⟩
theorem rd_131 (v0 v1 v14 v15 : Value) (up d0 d1 d2 d3 r0 r1 r2 r3 r4 q0 q1 q2 q3 : Int) (a b lw : W4) (g : Nat → Value) : Rd (tabOf Tryz.prog extY conQW true) Tryz.f172 1 3 1 v0 v1 v14 v15 up d0 d1 d2 d3 r0 r1 r2 r3 r4 q0 q1 q2 q3 a b lw g := ⟨by kernel_rfl, by kernel_rfl, by kernel_rfl⟩
theorem rd_132 (v0 v1 v14 v15 : Value) (up d0 d1 d2 d3 r0 r1 r2 r3 r4 q0 q1 q2 q3 : Int) (a b lw : W4) (g : Nat → Value) : Rd (tabOf Tryz.prog extY conQW true) Tryz.f172 1 3 2 v0 v1 v14 v15 up d0 d1 d2 d3 r0 r1 r2 r3 r4 q0 q1 q2 q3 a b lw g := ⟨by kernel_rfl, by kernel_rfl, by kernel_rfl⟩
theorem rd_200 (v0 v1 v14 v15 : Value) (up d0 d1 d2 d3 r0 r1 r2 r3 r4 q0 q1 q2 q3 : Int) (a b lw : W4) (g : Nat → Value) : Rd (tabOf Tryz.prog extY conQW true) Tryz.f172 2 0 0 v0 v1 v14 v15 up d0 d1 d2 d3 r0 r1 r2 r3 r4 q0 q1 q2 q3 a b lw g := ⟨by kernel_rfl, by kernel_rfl, by kernel_rfl⟩
theorem rd_201 (v0 v1 v14 v15 : Value) (up d0 d1 d2 d3 r0 r1 r2 r3 r4 q0 q1 q2 q3 : Int) (a b lw : W4) (g : Nat → Value) : Rd (tabOf Tryz.prog extY conQW true) Tryz.f172 2 0 1 v0 v1 v14 v15 up d0 d1 d2 d3 r0 r1 r2 r3 r4 q0 q1 q2 q3 a b lw g := ⟨by kernel_rfl, by kernel_rfl, by kernel_rfl⟩
theorem rd_202 (v0 v1 v14 v15 : Value) (up d0 d1 d2 d3 r0 r1 r2 r3 r4 q0 q1 q2 q3 : Int) (a b lw : W4) (g : Nat → Value) : Rd (tabOf Tryz.prog extY conQW true) Tryz.f172 2 0 2 v0 v1 v14 v15 up d0 d1 d2 d3 r0 r1 r2 r3 r4 q0 q1 q2 q3 a b lw g := ⟨by kernel_rfl, by kernel_rfl, by kernel_rfl⟩
theorem rd_210 (v0 v1 v14 v15 : Value) (up d0 d1 d2 d3 r0 r1 r2 r3 r4 q0 q1 q2 q3 : Int) (a b lw : W4) (g : Nat → Value) : Rd (tabOf Tryz.prog extY conQW true) Tryz.f172 2 1 0 v0 v1 v14 v15 up d0 d1 d2 d3 r0 r1 r2 r3 r4 q0 q1 q2 q3 a b lw g := ⟨by kernel_rfl, by kernel_rfl, by kernel_rfl⟩
theorem rd_211 (v0 v1 v14 v15 : Value) (up d0 d1 d2 d3 r0 r1 r2 r3 r4 q0 q1 q2 q3 : Int) (a b lw : W4) (g : Nat → Value) : Rd (tabOf Tryz.prog extY conQW true) Tryz.f172 2 1 1 v0 v1 v14 v15 up d0 d1 d2 d3 r0 r1 r2 r3 r4 q0 q1 q2 q3 a b lw g := ⟨by kernel_rfl, by kernel_rfl, by kernel_rfl⟩
theorem rd_212 (v0 v1 v14 v15 : Value) (up d0 d1 d2 d3 r0 r1 r2 r3 r4 q0 q1 q2 q3 : Int) (a b lw : W4) (g : Nat → Value) : Rd (tabOf Tryz.prog extY conQW true) Tryz.f172 2 1 2 v0 v1 v14 v15 up d0 d1 d2 d3 r0 r1 r2 r3 r4 q0 q1 q2 q3 a b lw g := ⟨by kernel_rfl, by kernel_rfl, by kernel_rfl⟩
theorem rd_220 (v0 v1 v14 v15 : Value) (up d0 d1 d2 d3 r0 r1 r2 r3 r4 q0 q1 q2 q3 : Int) (a b lw : W4) (g : Nat → Value) : Rd (tabOf Tryz.prog extY conQW true) Tryz.f172 2 2 0 v0 v1 v14 v15 up d0 d1 d2 d3 r0 r1 r2 r3 r4 q0 q1 q2 q3 a b lw g := ⟨by kernel_rfl, by kernel_rfl, by kernel_rfl⟩
theorem rd_221 (v0 v1 v14 v15 : Value) (up d0 d1 d2 d3 r0 r1 r2 r3 r4 q0 q1 q2 q3 : Int) (a b lw : W4) (g : Nat → Value) : Rd (tabOf Tryz.prog extY conQW true) Tryz.f172 2 2 1 v0 v1 v14 v15 up d0 d1 d2 d3 r0 r1 r2 r3 r4 q0 q1 q2 q3 a b lw g := ⟨by kernel_rfl, by kernel_rfl, by kernel_rfl⟩
theorem rd_222 (v0 v1 v14 v15 : Value) (up d0 d1 d2 d3 r0 r1 r2 r3 r4 q0 q1 q2 q3 : Int) (a b lw : W4) (g : Nat → Value) : Rd (tabOf Tryz.prog extY conQW true) Tryz.f172 2 2 2 v0 v1 v14 v15 up d0 d1 d2 d3 r0 r1 r2 r3 r4 q0 q1 q2 q3 a b lw g := ⟨by kernel_rfl, by kernel_rfl, by kernel_rfl⟩
theorem rd_300 (v0 v1 v14 v15 : Value) (up d0 d1 d2 d3 r0 r1 r2 r3 r4 q0 q1 q2 q3 : Int) (a b lw : W4) (g : Nat → Value) : Rd (tabOf Tryz.prog extY conQW true) Tryz.f172 3 0 0 v0 v1 v14 v15 up d0 d1 d2 d3 r0 r1 r2 r3 r4 q0 q1 q2 q3 a b lw g := ⟨by kernel_rfl, by kernel_rfl, by kernel_rfl⟩
theorem rd_301 (v0 v1 v14 v15 : Value) (up d0 d1 d2 d3 r0 r1 r2 r3 r4 q0 q1 q2 q3 : Int) (a b lw : W4) (g : Nat → Value) : Rd (tabOf Tryz.prog extY conQW true) Tryz.f172 3 0 1 v0 v1 v14 v15 up d0 d1 d2 d3 r0 r1 r2 r3 r4 q0 q1 q2 q3 a b lw g := ⟨by kernel_rfl, by kernel_rfl, by kernel_rfl⟩
theorem rd_302 (v0 v1 v14 v15 : Value) (up d0 d1 d2 d3 r0 r1 r2 r3 r4 q0 q1 q2 q3 : Int) (a b lw : W4) (g : Nat → Value) : Rd (tabOf Tryz.prog extY conQW true) Tryz.f172 3 0 2 v0 v1 v14 v15 up d0 d1 d2 d3 r0 r1 r2 r3 r4 q0 q1 q2 q3 a b lw g := ⟨by kernel_rfl, by kernel_rfl, by kernel_rfl⟩
theorem rd_310 (v0 v1 v14 v15 : Value) (up d0 d1 d2 d3 r0 r1 r2 r3 r4 q0 q1 q2 q3 : Int) (a b lw : W4) (g : Nat → Value) : Rd (tabOf Tryz.prog extY conQW true) Tryz.f172 3 1 0 v0 v1 v14 v15 up d0 d1 d2 d3 r0 r1 r2 r3 r4 q0 q1 q2 q3 a b lw g := ⟨by kernel_rfl, by kernel_rfl, by kernel_rfl⟩
theorem rd_311 (v0 v1 v14 v15 : Value) (up d0 d1 d2 d3 r0 r1 r2 r3 r4 q0 q1 q2 q3 : Int) (a b lw : W4) (g : Nat → Value) : Rd (tabOf Tryz.prog extY conQW true) Tryz.f172 3 1 1 v0 v1 v14 v15 up d0 d1 d2 d3 r0 r1 r2 r3 r4 q0 q1 q2 q3 a b lw g := ⟨by kernel_rfl, by kernel_rfl, by kernel_rfl⟩
theorem rd_312 (v0 v1 v14 v15 : Value) (up d0 d1 d2 d3 r0 r1 r2 r3 r4 q0 q1 q2 q3 : Int) (a b lw : W4) (g : Nat → Value) : Rd (tabOf Tryz.prog extY conQW true) Tryz.f172 3 1 2 v0 v1 v14 v15 up d0 d1 d2 d3 r0 r1 r2 r3 r4 q0 q1 q2 q3 a b lw g := ⟨by kernel_rfl, by kernel_rfl, by kernel_rfl⟩
theorem rd_400 (v0 v1 v14 v15 : Value) (up d0 d1 d2 d3 r0 r1 r2 r3 r4 q0 q1 q2 q3 : Int) (a b lw : W4) (g : Nat → Value) : Rd (tabOf Tryz.prog extY conQW true) Tryz.f172 4 0 0 v0 v1 v14 v15 up d0 d1 d2 d3 r0 r1 r2 r3 r4 q0 q1 q2 q3 a b lw g := ⟨by kernel_rfl, by kernel_rfl, by kernel_rfl⟩
theorem rd_401 (v0 v1 v14 v15 : Value) (up d0 d1 d2 d3 r0 r1 r2 r3 r4 q0 q1 q2 q3 : Int) (a b lw : W4) (g : Nat → Value) : Rd (tabOf Tryz.prog extY conQW true) Tryz.f172 4 0 1 v0 v1 v14 v15 up d0 d1 d2 d3 r0 r1 r2 r3 r4 q0 q1 q2 q3 a b lw g := ⟨by kernel_rfl, by kernel_rfl, by kernel_rfl⟩
theorem rd_402 (v0 v1 v14 v15 : Value) (up d0 d1 d2 d3 r0 r1 r2 r3 r4 q0 q1 q2 q3 : Int) (a b lw : W4) (g : Nat → Value) : Rd (tabOf Tryz.prog extY conQW true) Tryz.f172 4 0 2 v0 v1 v14 v15 up d0 d1 d2 d3 r0 r1 r2 r3 r4 q0 q1 q2 q3 a b lw g := ⟨by kernel_rfl, by kernel_rfl, by kernel_rfl⟩
theorem rd_all {n i c : Nat} (hn : 1 ≤ n) (hi : n + i ≤ 4) (hc : c < 3) {ds rs qs : List Int} (ld : ds.length = 4) (lr : rs.length = 5) (lq : qs.length = 4) (v0 v1 v14 v15 : Value) (up : Int) (a b lw : W4) (g : Nat → Value) :
    GoesT (evC (tabOf Tryz.prog extY conQW true) 500 false (qLoop Tryz.f172) (qFr v0 v1 n up i v14 v15 ++ tl 70 g, qHp a b lw ds rs qs, tkS n c) ⟨[], [], []⟩) 16 70 none (qFr v0 v1 n up (IntKind.i64.wrap ((i : Int) - 1)) v14 v15)
      (qHp a b lw ds (rs.take i ++ (tkO n c (ds.take n) ((rs.drop i).take (n + 1)) ++ rs.drop (i + n + 1))) (qs.set i (tkD n c (ds.take n) ((rs.drop i).take (n + 1))))) (tkG n c (ds.take n) ((rs.drop i).take (n + 1))) := by
  match ds, ld, rs, lr, qs, lq with
  | [d0, d1, d2, d3], _, [r0, r1, r2, r3, r4], _, [q0, q1, q2, q3], _ =>
    have hn' : n = 1 ∨ n = 2 ∨ n = 3 ∨ n = 4 := by omega
    have hc' : c = 0 ∨ c = 1 ∨ c = 2 := by omega
    rcases hn' with rfl | rfl | rfl | rfl
    · have hi' : i = 0 ∨ i = 1 ∨ i = 2 ∨ i = 3 := by omega
      rcases hi' with rfl | rfl | rfl | rfl
      · rcases hc' with rfl | rfl | rfl
        · exact rd_100 v0 v1 v14 v15 up d0 d1 d2 d3 r0 r1 r2 r3 r4 q0 q1 q2 q3 a b lw g
        · exact rd_101 v0 v1 v14 v15 up d0 d1 d2 d3 r0 r1 r2 r3 r4 q0 q1 q2 q3 a b lw g
        · exact rd_102 v0 v1 v14 v15 up d0 d1 d2 d3 r0 r1 r2 r3 r4 q0 q1 q2 q3 a b lw g
      · rcases hc' with rfl | rfl | rfl
        · exact rd_110 v0 v1 v14 v15 up d0 d1 d2 d3 r0 r1 r2 r3 r4 q0 q1 q2 q3 a b lw g
        · exact rd_111 v0 v1 v14 v15 up d0 d1 d2 d3 r0 r1 r2 r3 r4 q0 q1 q2 q3 a b lw g
        · exact rd_112 v0 v1 v14 v15 up d0 d1 d2 d3 r0 r1 r2 r3 r4 q0 q1 q2 q3 a b lw g
      · rcases hc' with rfl | rfl | rfl
        · exact rd_120 v0 v1 v14 v15 up d0 d1 d2 d3 r0 r1 r2 r3 r4 q0 q1 q2 q3 a b lw g
        · exact rd_121 v0 v1 v14 v15 up d0 d1 d2 d3 r0 r1 r2 r3 r4 q0 q1 q2 q3 a b lw g
        · exact rd_122 v0 v1 v14 v15 up d0 d1 d2 d3 r0 r1 r2 r3 r4 q0 q1 q2 q3 a b lw g
      · rcases hc' with rfl | rfl | rfl
        · exact rd_130 v0 v1 v14 v15 up d0 d1 d2 d3 r0 r1 r2 r3 r4 q0 q1 q2 q3 a b lw g
        · exact rd_131 v0 v1 v14 v15 up d0 d1 d2 d3 r0 r1 r2 r3 r4 q0 q1 q2 q3 a b lw g
        · exact rd_132 v0 v1 v14 v15 up d0 d1 d2 d3 r0 r1 r2 r3 r4 q0 q1 q2 q3 a b lw g
    · have hi' : i = 0 ∨ i = 1 ∨ i = 2 := by omega
      rcases hi' with rfl | rfl | rfl
      · rcases hc' with rfl | rfl | rfl
        · exact rd_200 v0 v1 v14 v15 up d0 d1 d2 d3 r0 r1 r2 r3 r4 q0 q1 q2 q3 a b lw g
        · exact rd_201 v0 v1 v14 v15 up d0 d1 d2 d3 r0 r1 r2 r3 r4 q0 q1 q2 q3 a b lw g
        · exact rd_202 v0 v1 v14 v15 up d0 d1 d2 d3 r0 r1 r2 r3 r4 q0 q1 q2 q3 a b lw g
      · rcases hc' with rfl | rfl | rfl
        · exact rd_210 v0 v1 v14 v15 up d0 d1 d2 d3 r0 r1 r2 r3 r4 q0 q1 q2 q3 a b lw g
        · exact rd_211 v0 v1 v14 v15 up d0 d1 d2 d3 r0 r1 r2 r3 r4 q0 q1 q2 q3 a b lw g
        · exact rd_212 v0 v1 v14 v15 up d0 d1 d2 d3 r0 r1 r2 r3 r4 q0 q1 q2 q3 a b lw g
      · rcases hc' with rfl | rfl | rfl
        · exact rd_220 v0 v1 v14 v15 up d0 d1 d2 d3 r0 r1 r2 r3 r4 q0 q1 q2 q3 a b lw g
        · exact rd_221 v0 v1 v14 v15 up d0 d1 d2 d3 r0 r1 r2 r3 r4 q0 q1 q2 q3 a b lw g
        · exact rd_222 v0 v1 v14 v15 up d0 d1 d2 d3 r0 r1 r2 r3 r4 q0 q1 q2 q3 a b lw g
    · have hi' : i = 0 ∨ i = 1 := by omega
      rcases hi' with rfl | rfl
      · rcases hc' with rfl | rfl | rfl
        · exact rd_300 v0 v1 v14 v15 up d0 d1 d2 d3 r0 r1 r2 r3 r4 q0 q1 q2 q3 a b lw g
        · exact rd_301 v0 v1 v14 v15 up d0 d1 d2 d3 r0 r1 r2 r3 r4 q0 q1 q2 q3 a b lw g
        · exact rd_302 v0 v1 v14 v15 up d0 d1 d2 d3 r0 r1 r2 r3 r4 q0 q1 q2 q3 a b lw g
      · rcases hc' with rfl | rfl | rfl
        · exact rd_310 v0 v1 v14 v15 up d0 d1 d2 d3 r0 r1 r2 r3 r4 q0 q1 q2 q3 a b lw g
        · exact rd_311 v0 v1 v14 v15 up d0 d1 d2 d3 r0 r1 r2 r3 r4 q0 q1 q2 q3 a b lw g
        · exact rd_312 v0 v1 v14 v15 up d0 d1 d2 d3 r0 r1 r2 r3 r4 q0 q1 q2 q3 a b lw g
    · have hi' : i = 0 := by omega
      subst hi'
      rcases hc' with rfl | rfl | rfl
      · exact rd_400 v0 v1 v14 v15 up d0 d1 d2 d3 r0 r1 r2 r3 r4 q0 q1 q2 q3 a b lw g
      · exact rd_401 v0 v1 v14 v15 up d0 d1 d2 d3 r0 r1 r2 r3 r4 q0 q1 q2 q3 a b lw g
      · exact rd_402 v0 v1 v14 v15 up d0 d1 d2 d3 r0 r1 r2 r3 r4 q0 q1 q2 q3 a b lw g
theorem quo_out (v0 v1 v14 v15 : Value) (n up : Int) (h : Hp) (g : Nat → Value) : GoesE (evC (tabOf Tryz.prog extY conQW true) 300 false (qLoop Tryz.f172) (qFr v0 v1 n up (-1) v14 v15 ++ tl 70 g, h, [cmp false]) ⟨[], [], []⟩) 16 70 (some (some 0))
    (qFr v0 v1 n up (-1) v14 v15) h [(decide ((-1 : Int) ≥ 0), false)] := by unfold GoesE; kernel_rfl
theorem quo_r (v0 v1 v13 v14 v15 : Value) (n up : Int) (h : Hp) (g : Nat → Value) : GoesE (evC (tabOf Tryz.prog extY conQW true) 300 false (qRW Tryz.f172) ([v0, v1, t_ 0, t_ 1, t_ 2, t_ 3, .nilIface, .int .i64 n, .int .i64 up, t_ 4, t_ 5, t_ 6, t_ 7, v13, v14, v15] ++ tl 70 g, h, []) ⟨[], [], []⟩) 16 70 none
    (qFr v0 v1 n up (IntKind.i64.wrap (4 - n)) v14 v15) h [] := by unfold GoesE; kernel_rfl
def upI (b : W4) (n : Int) : Int := IntKind.i64.wrap (IntKind.i64.wrap (n * 64) - lenI b)
def topI (a : W4) (up : Int) : Int := a.d.fdiv (2 ^ min ((IntKind.u64.wrap (IntKind.i64.wrap (64 - up))).toNat) 64)
def szI (b : W4) : Int := IntKind.i64.wrap (IntKind.i64.wrap (lenI b + 64) - 1)
def l4 (x : W4) : List Int := [x.a, x.b, x.c, x.d]
def l5 (x : W4) (t : Int) : List Int := [x.a, x.b, x.c, x.d, t]
def okQ (x : W4) : Bool × Bool := (decide x.ok, true)
theorem quo_pre (a b : W4) (n : Int) : GoesE (evL (tabOf Tryz.prog extY conQW true) 500 (qPre Tryz.f172) ([vW a, vW b] ++ List.replicate 84 undef, ⟨0, []⟩, [sam false, num n]) ⟨[], [], []⟩) 16 70 none
    [vW a, vW b, t_ 0, t_ 1, t_ 2, t_ 3, .nilIface, .int .i64 n, .int .i64 (upI b n), t_ 4, t_ 5, t_ 6, t_ 7, undef, undef, undef]
    (qHp a b (shlW a (upI b n)) (l4 (shlW b (upI b n))) (l5 (shlW a (upI b n)) (topI a (upI b n))) [0, 0, 0, 0])
    [(decide (IntKind.u64.wrap (IntKind.i64.wrap (64 - upI b n)) < 0), false), lk a (upI b n), lk b (upI b n), okQ b, (decide ((64 : Int) = 0), false), (decide (IntKind.i64.wrap ((szI b).tdiv 64) = n), true), okQ b, (eqW b ⟨0, 0, 0, 0⟩, false)] := by unfold GoesE; kernel_rfl
theorem quo_end (v0 v1 v14 v15 : Value) (n up i : Int) (a b lw : W4) (ds : List Int) (r0 r1 r2 r3 r4 : Int) (q : W4) (g : Nat → Value) :
    GoesT (evC (tabOf Tryz.prog extY conQW true) 500 false (qEnd Tryz.f172) (qFr v0 v1 n up i v14 v15 ++ tl 70 g, qHp a b lw ds [r0, r1, r2, r3, r4] (l4 q), []) ⟨[], [], []⟩) 7 79 (some none)
      [v0, v1, t_ 0, t_ 1, t_ 2, t_ 3, .nilIface] ⟨9, [cW (shrW ⟨r0, r1, r2, r3⟩ up), (vQ (l4 q), 159), (vQ [r0, r1, r2, r3, r4], 222), cW lw, (vQ ds, 159), cW (shrW ⟨r0, r1, r2, r3⟩ up), cW q, cW b, cW a]⟩ [lk ⟨r0, r1, r2, r3⟩ up] := ⟨by kernel_rfl, by kernel_rfl, by kernel_rfl⟩
theorem words_take {l : List Int} (h : words l) (n : Nat) : words (l.take n) := fun x hx => h x (List.mem_of_mem_take hx)
theorem words_drop {l : List Int} (h : words l) (n : Nat) : words (l.drop n) := fun x hx => h x (List.mem_of_mem_drop hx)
/-- words above a number's bound are nothing -/
theorem high_zero {l : List Int} (h : words l) {n : Nat} (hn : n ≤ l.length) {D : Int} (hD : D ≤ 18446744073709551616 ^ n) (hl : vB l < D) : vB (l.drop n) = 0 := by
  have e := vB_append (l.take n) (l.drop n)
  rw [List.take_append_drop, List.length_take, Nat.min_eq_left hn] at e
  have b1 := vB_bd _ (words_take h n)
  have b2 := vB_bd _ (words_drop h n)
  have p := pow_posB n
  rcases Int.lt_or_le (vB (l.drop n)) 1 with hc | hc
  · omega
  · have : 18446744073709551616 ^ n * 1 ≤ 18446744073709551616 ^ n * vB (l.drop n) := Int.mul_le_mul_of_nonneg_left hc (Int.le_of_lt p)
    omega
theorem quo_step {n i : Nat} (hn : 1 ≤ n) (hi : n + i ≤ 4) {ds rs qs : List Int} (ld : ds.length = 4) (lr : rs.length = 5) (lq : qs.length = 4) (wd' : words ds) (wr : words rs) (wq : words qs) (top : 9223372036854775808 ≤ (ds.take n).getD (n - 1) 0)
    (h3 : vB (rs.drop (i + 1)) < vB (ds.take n)) (hz : qs.take (i + 1) = List.replicate (i + 1) 0) :
    ∃ c, c < 3 ∧ okLog (tkG n c (ds.take n) ((rs.drop i).take (n + 1))) ∧
      (rs.take i ++ (tkO n c (ds.take n) ((rs.drop i).take (n + 1)) ++ rs.drop (i + n + 1))).length = 5 ∧ words (rs.take i ++ (tkO n c (ds.take n) ((rs.drop i).take (n + 1)) ++ rs.drop (i + n + 1))) ∧
      (qs.set i (tkD n c (ds.take n) ((rs.drop i).take (n + 1)))).length = 4 ∧ words (qs.set i (tkD n c (ds.take n) ((rs.drop i).take (n + 1)))) ∧
      vB ((rs.take i ++ (tkO n c (ds.take n) ((rs.drop i).take (n + 1)) ++ rs.drop (i + n + 1))).drop i) < vB (ds.take n) ∧ (qs.set i (tkD n c (ds.take n) ((rs.drop i).take (n + 1)))).take i = List.replicate i 0 ∧
      vB (rs.take i ++ (tkO n c (ds.take n) ((rs.drop i).take (n + 1)) ++ rs.drop (i + n + 1))) + vB (qs.set i (tkD n c (ds.take n) ((rs.drop i).take (n + 1)))) * vB (ds.take n) = vB rs + vB qs * vB (ds.take n) := by
  have wy := words_take wd' n
  have ly : (ds.take n).length = n := by rw [List.length_take]; omega
  have lp : ((rs.drop i).take (n + 1)).length = n + 1 := by rw [List.length_take, List.length_drop]; omega
  have wp := words_take (words_drop wr i) (n + 1)
  have by_ := vB_bd _ wy
  rw [ly] at by_
  have z : vB (rs.drop (i + n + 1)) = 0 := by
    have := high_zero (words_drop wr (i + 1)) (n := n) (by rw [List.length_drop]; omega) (Int.le_of_lt by_.2) h3
    rw [List.drop_drop, show i + 1 + n = i + n + 1 from by omega] at this
    exact this
  have eP : vB (rs.drop i) = vB ((rs.drop i).take (n + 1)) := by
    have e := vB_append ((rs.drop i).take (n + 1)) ((rs.drop i).drop (n + 1))
    rw [List.take_append_drop, List.drop_drop, show i + (n + 1) = i + n + 1 from by omega, z, Int.mul_zero, Int.add_zero] at e
    exact e
  have ex : ∃ x, rs[i]? = some x := ⟨rs[i]'(by omega), List.getElem?_eq_getElem (by omega)⟩
  obtain ⟨x, hx⟩ := ex
  have wx : word x := wr x (List.mem_of_getElem? hx)
  have ed : rs.drop i = x :: rs.drop (i + 1) := by
    have hlt : i < rs.length := by omega
    rw [List.drop_eq_getElem_cons hlt]
    rw [List.getElem?_eq_getElem hlt] at hx
    cases hx
    rfl
  have eP2 : vB (rs.drop i) = x + 18446744073709551616 * vB (rs.drop (i + 1)) := by rw [ed]; rfl
  have hlt : vB ((rs.drop i).take (n + 1)) < 18446744073709551616 * vB (ds.take n) := by
    rw [← eP, eP2]
    unfold word at wx
    omega
  obtain ⟨k, rfl⟩ : ∃ k, n = k + 1 := ⟨n - 1, by omega⟩
  rw [Nat.add_sub_cancel] at top
  obtain ⟨c, hc, t1, t2, t3, t4, t5⟩ := tk_spec ly lp wy wp top hlt
  have hy0 : 0 < vB (ds.take (k + 1)) := by
    have := vB_bd _ (words_drop wr (i + 1))
    omega
  have dm := Int.mul_ediv_add_emod (vB ((rs.drop i).take (k + 1 + 1))) (vB (ds.take (k + 1)))
  have r1 := Int.emod_lt_of_pos (vB ((rs.drop i).take (k + 1 + 1))) hy0
  have hp0 := (vB_bd _ wp).1
  have q0 : 0 ≤ vB ((rs.drop i).take (k + 1 + 1)) / vB (ds.take (k + 1)) := Int.ediv_nonneg hp0 (by omega)
  have q9 : vB ((rs.drop i).take (k + 1 + 1)) / vB (ds.take (k + 1)) < 18446744073709551616 := Int.ediv_lt_of_lt_mul hy0 hlt
  have lt : (rs.take i).length = i := by rw [List.length_take]; omega
  refine ⟨c, hc, t5, ?_, ?_, by rw [List.length_set]; exact lq, ?_, ?_, ?_, ?_⟩
  · rw [List.length_append, List.length_append, lt, t3, List.length_drop]; omega
  · intro d hd
    rcases List.mem_append.1 hd with hd | hd
    · exact words_take wr i d hd
    · rcases List.mem_append.1 hd with hd | hd
      · exact t2 d hd
      · exact words_drop wr _ d hd
  · intro d hd
    rcases List.mem_or_eq_of_mem_set hd with hd | hd
    · exact wq d hd
    · rw [hd, t1]; exact ⟨q0, q9⟩
  · rw [List.drop_left' lt, vB_append, z, t4, Int.mul_zero, Int.add_zero]
    exact r1
  · have : qs.take i = List.replicate i 0 := by
      have := congrArg (List.take i) hz
      rw [List.take_take, Nat.min_eq_left (by omega), List.take_replicate, Nat.min_eq_left (by omega)] at this
      exact this
    rw [List.take_set_of_le (by omega)]
    exact this
  · have e1 := vB_append (rs.take i) (rs.drop i)
    rw [List.take_append_drop, lt, eP] at e1
    have e2 : vB (rs.take i ++ (tkO (k + 1) c (ds.take (k + 1)) ((rs.drop i).take (k + 1 + 1)) ++ rs.drop (i + (k + 1) + 1))) = vB (rs.take i) + 18446744073709551616 ^ i * (vB ((rs.drop i).take (k + 1 + 1)) % vB (ds.take (k + 1))) := by
      rw [vB_append, vB_append, z, t4, Int.mul_zero, Int.add_zero, lt]
    have eq0 : qs = List.replicate i 0 ++ 0 :: qs.drop (i + 1) := by
      have := List.take_append_drop (i + 1) qs
      rw [hz, List.replicate_succ', List.append_assoc] at this
      exact this.symm
    have e3 : vB (qs.set i (tkD (k + 1) c (ds.take (k + 1)) ((rs.drop i).take (k + 1 + 1)))) = vB qs + 18446744073709551616 ^ i * (vB ((rs.drop i).take (k + 1 + 1)) / vB (ds.take (k + 1))) := by
      rw [t1]
      generalize vB ((rs.drop i).take (k + 1 + 1)) / vB (ds.take (k + 1)) = q
      generalize qs.drop (i + 1) = tt at eq0
      rw [eq0, List.set_append_right _ _ (by simp), List.length_replicate, Nat.sub_self, List.set_cons_zero, vB_append, vB_append, List.length_replicate]
      simp only [vB]
      rw [Int.mul_add, Int.mul_add]
      omega
    rw [e1, e2, e3, Int.add_mul]
    generalize vB ((rs.drop i).take (k + 1 + 1)) / vB (ds.take (k + 1)) = q at *
    generalize vB ((rs.drop i).take (k + 1 + 1)) % vB (ds.take (k + 1)) = r at *
    rw [← dm, Int.mul_add, Int.mul_assoc, Int.mul_comm q]
    omega
theorem quo_loop {n : Nat} (hn : 1 ≤ n) (h4 : n ≤ 4) {ds rs0 : List Int} (ld : ds.length = 4) (lr : rs0.length = 5) (wd' : words ds) (wr : words rs0) (top : 9223372036854775808 ≤ (ds.take n).getD (n - 1) 0) (h3 : vB (rs0.drop (5 - n)) < vB (ds.take n))
    (v0 v1 v14 v15 : Value) (up : Int) (a b lw : W4) (g : Nat → Value) (s : List Dec) :
    Runs (tabOf Tryz.prog extY conQW true) (.block 0 (.loop (qLoop Tryz.f172))) (qFr v0 v1 n up (IntKind.i64.wrap (4 - (n : Int))) v14 v15 ++ tl 70 g, qHp a b lw ds rs0 [0, 0, 0, 0], s) fun e y => match e with
      | none => ∃ (rs qs : List Int) (i : Int) (g : Nat → Value), y.1 = qFr v0 v1 n up i v14 v15 ++ tl 70 g ∧ y.2.1 = qHp a b lw ds rs qs ∧ rs.length = 5 ∧ words rs ∧ qs.length = 4 ∧ words qs ∧ vB rs < vB (ds.take n) ∧ vB rs + vB qs * vB (ds.take n) = vB rs0
      | some none => False
      | some (some _) => False := by
  have w0 : words [0, 0, 0, 0] := fun d hd => by
    simp only [List.mem_cons, List.not_mem_nil, or_false, or_self] at hd
    rw [hd]; unfold word; omega
  refine Runs.forLoop (n := 5 - n) (R := fun _ => False) (P := fun y => ∃ (rs qs : List Int) (i : Int) (g : Nat → Value), y.1 = qFr v0 v1 n up i v14 v15 ++ tl 70 g ∧ y.2.1 = qHp a b lw ds rs qs ∧ rs.length = 5 ∧ words rs ∧ qs.length = 4 ∧ words qs ∧ vB rs < vB (ds.take n) ∧ vB rs + vB qs * vB (ds.take n) = vB rs0)
    (fun r y => ∃ (rs qs : List Int) (g : Nat → Value), n + r ≤ 5 ∧ y.1 = qFr v0 v1 n up ((r : Int) - 1) v14 v15 ++ tl 70 g ∧ y.2.1 = qHp a b lw ds rs qs ∧ rs.length = 5 ∧ words rs ∧ qs.length = 4 ∧ words qs ∧ vB (rs.drop r) < vB (ds.take n) ∧ qs.take r = List.replicate r 0 ∧ vB rs + vB qs * vB (ds.take n) = vB rs0) ?_
    ⟨rs0, [0, 0, 0, 0], g, by omega, by rw [wrap_i64' (by omega) (by omega), show (4 : Int) - n = ((5 - n : Nat) : Int) - 1 from by omega], rfl, lr, wr, rfl, w0, h3, by
      have hn' : n = 1 ∨ n = 2 ∨ n = 3 ∨ n = 4 := by omega
      rcases hn' with rfl | rfl | rfl | rfl <;> rfl, by simp [vB]⟩
  rintro r ⟨t, h', s'⟩ ⟨rs, qs, g, e0, ht, hh, lr, wr, lq, wq, h3, hz, hv⟩
  simp only at ht hh
  subst ht hh
  cases r with
  | zero =>
    refine (goesT_runs (tabY_ok conQ_okW) (quo_out v0 v1 v14 v15 n up _ g).t (okL1 (by rfl))).mono fun e y he => ?_
    obtain ⟨rfl, ⟨g', h2⟩, h3'⟩ := he
    exact ⟨rfl, rs, qs, _, g', h2, h3', lr, wr, lq, wq, h3, hv⟩
  | succ i =>
    obtain ⟨c, hc, t1, t2, t3, t4, t5, t6, t7, t8⟩ := quo_step hn (by omega) ld lr lq wd' wr wq top h3 hz
    have ei : ((i + 1 : Nat) : Int) - 1 = (i : Int) := by omega
    rw [ei]
    refine (goesT_runs (tabY_ok conQ_okW) (rd_all hn (by omega) hc ld lr lq v0 v1 v14 v15 up a b lw g) t1).mono fun e y he => ?_
    obtain ⟨rfl, ⟨g', h2⟩, h3'⟩ := he
    refine ⟨i, by omega, _, _, g', by omega, ?_, h3', t2, t3, t4, t5, t6, t7, by rw [t8]; exact hv⟩
    rw [h2, wrap_i64' (by omega) (by omega)]
theorem pow64 (j : Nat) : (18446744073709551616 : Int) ^ j = 2 ^ (64 * j) := by
  rw [show (18446744073709551616 : Int) = 2 ^ 64 from rfl, ← Int.pow_mul]
theorem l4_val (x : W4) : vB (l4 x) = x.val := by unfold l4 W4.val; simp only [vB]; omega
theorem l4_words {x : W4} (h : x.ok) : words (l4 x) := fun d hd => by
  obtain ⟨y0, y1, y2, y3⟩ := h
  unfold l4 at hd
  simp only [List.mem_cons, List.not_mem_nil, or_false] at hd
  rcases hd with rfl | rfl | rfl | rfl
  · exact y0
  · exact y1
  · exact y2
  · exact y3
theorem shlW_spec {x : W4} (hx : x.ok) {u : Nat} (hu : u < 64) : (shlW x u).ok ∧ (shlW x u).val = x.val * 2 ^ u % 115792089237316195423570985008687907853269984665640564039457584007913129639936 := by
  have b := W4.val_bd hx
  unfold shlW
  split
  · have : u = 0 := by omega
    subst this
    refine ⟨hx, ?_⟩
    rw [Int.pow_zero, Int.mul_one, Int.emod_eq_of_lt b.1 b.2]
  · rw [if_neg (by omega), Int.toNat_natCast]
    exact ⟨W4.ok_of _, W4.val_of _⟩
theorem pow_pos2' (n : Nat) : (0 : Int) < 2 ^ n := Int.pow_pos (by omega)
theorem topI_eq {a : W4} (ha : a.ok) {u : Nat} (hu : u < 64) : topI a u = a.val * 2 ^ u / 115792089237316195423570985008687907853269984665640564039457584007913129639936 ∧ 0 ≤ topI a u ∧ topI a u < 18446744073709551616 := by
  have e1 : (IntKind.u64.wrap (IntKind.i64.wrap (64 - (u : Int)))).toNat = 64 - u := by
    rw [wrap_i64' (by omega) (by omega), wrap_u64' (by omega) (by omega)]; omega
  obtain ⟨h1, h2, h3, h4⟩ := ha
  have ed : a.val / 6277101735386680763835789423207666416102355444464034512896 = a.d := by unfold W4.val; omega
  have pp : (115792089237316195423570985008687907853269984665640564039457584007913129639936 : Int) = 6277101735386680763835789423207666416102355444464034512896 * 2 ^ (64 - u) * 2 ^ u := by
    rw [Int.mul_assoc, ← Int.pow_add, show 64 - u + u = 64 from by omega]
    rfl
  have hp := pow_pos2' u
  have hp2 := pow_pos2' (64 - u)
  have key : topI a u = a.val * 2 ^ u / 115792089237316195423570985008687907853269984665640564039457584007913129639936 := by
    unfold topI
    rw [e1, show min (64 - u) 64 = 64 - u from by omega, Int.fdiv_eq_ediv_of_nonneg _ (by omega), pp, Int.mul_ediv_mul_of_pos_left _ _ hp, ← Int.ediv_ediv_of_nonneg (by omega), ed]
  refine ⟨key, ?_, ?_⟩
  · unfold topI
    rw [e1, show min (64 - u) 64 = 64 - u from by omega, Int.fdiv_eq_ediv_of_nonneg _ (by omega)]
    exact Int.ediv_nonneg h4.1 (by omega)
  · unfold topI
    rw [e1, show min (64 - u) 64 = 64 - u from by omega, Int.fdiv_eq_ediv_of_nonneg _ (by omega)]
    exact Int.lt_of_le_of_lt (Int.ediv_le_self _ h4.1) h4.2
def qrV (q r : W4) : Value := .tuple #[vW q, vW r, .nilIface]
theorem cast_pow' (k : Nat) : ((2 ^ k : Nat) : Int) = 2 ^ k := by simp
/-- a number's length in words, and what it is moved up by -/
theorem size_of {b : W4} (hb : b.ok) (hz : b.val ≠ 0) : ∃ n u : Nat, 1 ≤ n ∧ n ≤ 4 ∧ u < 64 ∧ upI b n = u ∧ IntKind.i64.wrap ((szI b).tdiv 64) = n ∧ 2 ^ (64 * n - 1) ≤ b.val * 2 ^ u ∧ b.val * 2 ^ u < 2 ^ (64 * n) := by
  have bd := W4.val_bd hb
  have hV : b.val.toNat ≠ 0 := by omega
  obtain ⟨s1, s2⟩ := bitLen_spec b.val.toNat
  have s2 := s2 hV
  have hk1 : bitLen b.val.toNat ≠ 0 := by intro h0; rw [h0] at s1; simp at s1; omega
  have hk2 : bitLen b.val.toNat ≤ 256 := by
    rcases Nat.lt_or_ge 256 (bitLen b.val.toNat) with hh | hh
    · have h1 : 2 ^ 256 ≤ 2 ^ (bitLen b.val.toNat - 1) := Nat.pow_le_pow_right (by omega) (by omega)
      have h2 : (2 : Nat) ^ 256 = 115792089237316195423570985008687907853269984665640564039457584007913129639936 := rfl
      rw [h2] at h1
      omega
    · exact hh
  have lo : (2 : Int) ^ (bitLen b.val.toNat - 1) ≤ b.val := by rw [← cast_pow']; omega
  have hi : b.val < (2 : Int) ^ bitLen b.val.toNat := by rw [← cast_pow']; omega
  unfold upI szI lenI
  generalize bitLen b.val.toNat = k at *
  have hn : (k + 63) / 64 * 64 ≥ k ∧ (k + 63) / 64 * 64 < k + 64 := by omega
  refine ⟨(k + 63) / 64, (k + 63) / 64 * 64 - k, by omega, by omega, by omega, ?_, ?_, ?_, ?_⟩
  · rw [wrap_i64' (n := ((((k + 63) / 64 : Nat) : Int)) * 64) (by omega) (by omega), wrap_i64' (by omega) (by omega)]
    omega
  · rw [wrap_i64' (n := (k : Int) + 64) (by omega) (by omega), wrap_i64' (n := (k : Int) + 64 - 1) (by omega) (by omega), Int.tdiv_eq_ediv_of_nonneg (by omega), wrap_i64' (by omega) (by omega)]
    omega
  · rw [show 64 * ((k + 63) / 64) - 1 = (k - 1) + ((k + 63) / 64 * 64 - k) from by omega, Int.pow_add]
    exact Int.mul_le_mul_of_nonneg_right lo (Int.le_of_lt (pow_pos2' _))
  · have e : 64 * ((k + 63) / 64) = k + ((k + 63) / 64 * 64 - k) := by omega
    rw [e, Int.pow_add]
    exact Int.mul_lt_mul_of_pos_right hi (pow_pos2' _)
theorem pow_mono2 {i j : Nat} (h : i ≤ j) : (2 : Int) ^ i ≤ 2 ^ j := by
  rw [← cast_pow', ← cast_pow']
  have := Nat.pow_le_pow_right (n := 2) (by omega) h
  omega
theorem l5_val (x : W4) (t : Int) : vB (l5 x t) = x.val + 115792089237316195423570985008687907853269984665640564039457584007913129639936 * t := by unfold l5 W4.val; simp only [vB]; omega
theorem l5_words {x : W4} (h : x.ok) {t : Int} (ht : 0 ≤ t ∧ t < 18446744073709551616) : words (l5 x t) := fun d hd => by
  obtain ⟨y0, y1, y2, y3⟩ := h
  unfold l5 at hd
  simp only [List.mem_cons, List.not_mem_nil, or_false] at hd
  rcases hd with rfl | rfl | rfl | rfl | rfl
  · exact y0
  · exact y1
  · exact y2
  · exact y3
  · exact ht
/-- the highest word of a number of n words that has all their bits -/
theorem top_word {l : List Int} {n : Nat} (hn : 1 ≤ n) (hl : l.length = n) (hw : words l) (h : 2 ^ (64 * n - 1) ≤ vB l) : 9223372036854775808 ≤ l.getD (n - 1) 0 := by
  obtain ⟨k, rfl⟩ : ∃ k, n = k + 1 := ⟨n - 1, by omega⟩
  obtain ⟨d0, dt, e, l0⟩ := snoc_of hl
  have b0 := vB_bd d0 (fun x hx => hw x (by rw [e]; exact List.mem_append_left _ hx))
  rw [l0] at b0
  rw [Nat.add_sub_cancel, e, getD_snoc d0 dt [] l0]
  rw [e, vB_append, l0, show 64 * (k + 1) - 1 = 64 * k + 63 from by omega, Int.pow_add, ← pow64] at h
  simp only [vB] at h
  rw [Int.mul_zero, Int.add_zero, show (2 : Int) ^ 63 = 9223372036854775808 from rfl] at h
  rcases Int.lt_or_le dt 9223372036854775808 with hc | hc
  · exfalso
    have h1 : 18446744073709551616 ^ k * dt ≤ 18446744073709551616 ^ k * 9223372036854775807 := Int.mul_le_mul_of_nonneg_left (by omega) (Int.le_of_lt (pow_posB k))
    generalize (18446744073709551616 : Int) ^ k = K at *
    omega
  · exact hc
theorem divmod_calls (a b : W4) (ha : a.ok) (hb : b.ok) (hz : b.val ≠ 0) (w : World) : Calls Tryz.prog 172 #[vW a, vW b] w fun e w' => e = .returned (qrV (W4.of (a.val / b.val)) (W4.of (a.val % b.val))) ∧ Tidy w w' := by
  obtain ⟨n, u, n1, n4, hu, eu, en, dlo, dhi⟩ := size_of hb hz
  have ba := W4.val_bd ha
  have bb := W4.val_bd hb
  have hp := pow_pos2' u
  have p256' : (2 : Int) ^ 256 = 115792089237316195423570985008687907853269984665640564039457584007913129639936 := rfl
  have h256 : b.val * 2 ^ u < 115792089237316195423570985008687907853269984665640564039457584007913129639936 := by
    have := pow_mono2 (show 64 * n ≤ 256 by omega)
    rw [p256'] at this
    omega
  have hD0 : 0 < b.val * 2 ^ u := Int.mul_pos (by omega) hp
  obtain ⟨ob, vb⟩ := shlW_spec hb hu
  rw [Int.emod_eq_of_lt (by omega) h256] at vb
  obtain ⟨oa, va⟩ := shlW_spec ha hu
  obtain ⟨tp, t0, t9⟩ := topI_eq ha hu
  have hA : vB (l5 (shlW a u) (topI a u)) = a.val * 2 ^ u := by
    rw [l5_val, va, tp]
    have := Int.mul_ediv_add_emod (a.val * 2 ^ u) 115792089237316195423570985008687907853269984665640564039457584007913129639936
    omega
  have wds := l4_words ob
  have vds : vB (l4 (shlW b u)) = b.val * 2 ^ u := by rw [l4_val]; exact vb
  have lds : (l4 (shlW b u)).length = 4 := rfl
  have hdn : vB ((l4 (shlW b u)).take n) = b.val * 2 ^ u := by
    have z := high_zero wds (n := n) (by rw [lds]; exact n4) (Int.le_refl _) (by rw [vds, pow64]; exact dhi)
    have e := vB_append ((l4 (shlW b u)).take n) ((l4 (shlW b u)).drop n)
    rw [List.take_append_drop, z, vds, Int.mul_zero, Int.add_zero] at e
    exact e.symm
  have ltn : ((l4 (shlW b u)).take n).length = n := by rw [List.length_take, lds]; omega
  have top := top_word n1 ltn (words_take wds n) (by rw [hdn]; exact dlo)
  have wrs := l5_words oa ⟨t0, t9⟩
  have lrs : (l5 (shlW a u) (topI a u)).length = 5 := rfl
  have h3 : vB ((l5 (shlW a u) (topI a u)).drop (5 - n)) < vB ((l4 (shlW b u)).take n) := by
    rw [hdn]
    refine Int.lt_of_lt_of_le ?_ dlo
    have e := vB_append ((l5 (shlW a u) (topI a u)).take (5 - n)) ((l5 (shlW a u) (topI a u)).drop (5 - n))
    rw [List.take_append_drop, hA, List.length_take, lrs, show min (5 - n) 5 = 5 - n from by omega] at e
    have b0 := (vB_bd _ (words_take wrs (5 - n))).1
    have big : a.val * 2 ^ u < 2 ^ (256 + 63) := by
      have h1 : a.val * 2 ^ u < 2 ^ 256 * 2 ^ u := Int.mul_lt_mul_of_pos_right (by rw [p256']; exact ba.2) hp
      rw [← Int.pow_add] at h1
      have := pow_mono2 (show 256 + u ≤ 256 + 63 by omega)
      omega
    rcases Int.lt_or_le (vB ((l5 (shlW a u) (topI a u)).drop (5 - n))) (2 ^ (64 * n - 1)) with hc | hc
    · exact hc
    · exfalso
      have h1 : 18446744073709551616 ^ (5 - n) * 2 ^ (64 * n - 1) ≤ 18446744073709551616 ^ (5 - n) * vB ((l5 (shlW a u) (topI a u)).drop (5 - n)) := Int.mul_le_mul_of_nonneg_left hc (Int.le_of_lt (pow_posB _))
      rw [pow64, ← Int.pow_add, show 64 * (5 - n) + (64 * n - 1) = 256 + 63 from by omega, ← pow64] at h1
      omega
  have pre := quo_pre a b n
  rw [eu] at pre
  refine calls_of_runs (T := (tabOf Tryz.prog extY conQW true)) Tryz.func172 quo_body (vals := [vW a, vW b]) (by rfl) (by rfl) (goesT_list (tabY_ok conQ_okW) pre.t
    (okCons (decide_eq_false (by rw [wrap_i64' (by omega) (by omega), wrap_u64' (by omega) (by omega)]; omega)) (okCons (lk_ok ha (by omega) (by omega)) (okCons (lk_ok hb (by omega) (by omega)) (okCons (decide_eq_true hb) (okCons (by rfl) (okCons (decide_eq_true en) (okCons (decide_eq_true hb) (okL1 (by
      show eqW b ⟨0, 0, 0, 0⟩ = false
      cases h : eqW b ⟨0, 0, 0, 0⟩
      · rfl
      · rw [eqW_iff.1 h] at hz; exact absurd rfl hz))))))))) fun g => ?_) w
  refine Runs.seq (P1 := fun e y => e = none ∧ ∃ (rs qs : List Int) (i : Int) (g : Nat → Value), y.1 = qFr (vW a) (vW b) n u i undef undef ++ tl 70 g ∧ y.2.1 = qHp a b (shlW a u) (l4 (shlW b u)) rs qs ∧ rs.length = 5 ∧ words rs ∧ qs.length = 4 ∧ words qs ∧ vB rs < b.val * 2 ^ u ∧ vB rs + vB qs * (b.val * 2 ^ u) = a.val * 2 ^ u) ?_ ?_ (fun e y he => by cases he.1)
  · refine Runs.seq (goesT_runs (tabY_ok conQ_okW) (quo_r (vW a) (vW b) undef undef undef n u _ g).t okNil) ?_ (fun e y he => by cases he.1)
    rintro ⟨t, h', s⟩ ⟨_, ⟨g', ht⟩, hh⟩
    simp only at ht hh
    subst ht hh
    refine (quo_loop n1 n4 lds lrs wds wrs top h3 (vW a) (vW b) undef undef u a b (shlW a u) g' s).mono fun e y he => ?_
    rw [hdn, hA] at he
    match e, he with
    | none, he => exact ⟨rfl, he⟩
  · rintro ⟨t, h', s⟩ ⟨_, rs, qs, i, g', ht, hh, lr, wr, lq, wq, hlt, hv⟩
    simp only at ht hh
    subst ht hh
    have hr0 := (vB_bd _ wr).1
    have r4z : vB (rs.drop 4) = 0 := high_zero wr (n := 4) (by omega) (by show (115792089237316195423570985008687907853269984665640564039457584007913129639936 : Int) ≤ 18446744073709551616 ^ 4; decide) (by omega)
    match rs, lr, qs, lq, wr, wq, hr0, r4z, hlt, hv with
    | [r0, r1, r2, r3, r4], _, [q0, q1, q2, q3], _, wr, wq, hr0, r4z, hlt, hv =>
      have okQ' : (⟨q0, q1, q2, q3⟩ : W4).ok := ⟨wq q0 (by simp), wq q1 (by simp), wq q2 (by simp), wq q3 (by simp)⟩
      have okR : (⟨r0, r1, r2, r3⟩ : W4).ok := ⟨wr r0 (by simp), wr r1 (by simp), wr r2 (by simp), wr r3 (by simp)⟩
      have vq : vB [q0, q1, q2, q3] = (⟨q0, q1, q2, q3⟩ : W4).val := l4_val ⟨q0, q1, q2, q3⟩
      have e4 : r4 = 0 := by
        simp only [List.drop_succ_cons, List.drop_zero, vB] at r4z
        omega
      have vr : vB [r0, r1, r2, r3, r4] = (⟨r0, r1, r2, r3⟩ : W4).val := by
        have := l5_val ⟨r0, r1, r2, r3⟩ r4
        rw [e4, Int.mul_zero, Int.add_zero] at this
        rw [e4]
        exact this
      rw [vq] at hv
      rw [vr] at hv hlt hr0
      have eA : a.val * 2 ^ u = b.val * 2 ^ u * (⟨q0, q1, q2, q3⟩ : W4).val + (⟨r0, r1, r2, r3⟩ : W4).val := by rw [Int.mul_comm (b.val * 2 ^ u)]; omega
      have eq : a.val / b.val = (⟨q0, q1, q2, q3⟩ : W4).val := by
        rw [← Int.mul_ediv_mul_of_pos_left a.val b.val hp]
        exact ediv_of eA hr0 hlt
      have er : (⟨r0, r1, r2, r3⟩ : W4).val = a.val % b.val * 2 ^ u := by
        have dm := Int.mul_ediv_add_emod a.val b.val
        rw [eq] at dm
        have : a.val * 2 ^ u = b.val * 2 ^ u * (⟨q0, q1, q2, q3⟩ : W4).val + a.val % b.val * 2 ^ u := by
          rw [Int.mul_right_comm, ← Int.add_mul, dm]
        omega
      have es : shrW ⟨r0, r1, r2, r3⟩ u = W4.of (a.val % b.val) := by
        unfold shrW
        split
        · have : u = 0 := by omega
          subst this
          rw [Int.pow_zero, Int.mul_one] at er
          rw [← er, W4.of_val okR]
        · rw [if_neg (by omega), Int.toNat_natCast, er, Int.mul_ediv_cancel _ (by omega)]
      refine (goesT_runs (tabY_ok conQ_okW) (quo_end (vW a) (vW b) undef undef n u i a b (shlW a u) (l4 (shlW b u)) r0 r1 r2 r3 r4 ⟨q0, q1, q2, q3⟩ g') (okL1 (lk_ok okR (by omega) (by omega)))).mono fun e y he => ?_
      obtain ⟨rfl, ⟨g2, h2⟩, h3'⟩ := he
      refine ⟨.inr rfl, ?_⟩
      rw [h2, h3', es, eq, W4.of_val okQ']
      rfl
def nz2 (a b : W4) : Bool × Bool := (decide (a.ok ∧ b.ok ∧ b.val ≠ 0), true)
def gQR : Ans := fun vals s =>
  match vals with
  | [x, y] =>
    match w4 x, w4 y with
    | some a, some b => some (qrV (W4.of (a.val / b.val)) (W4.of (a.val % b.val)), s, [nz2 a b])
    | _, _ => none
  | _ => none
theorem gQR_ok : AnsOk 172 gQR := by
  intro vals s v s' lg h hl w
  unfold gQR at h
  split at h
  · split at h
    · rename_i a b ha hb
      cases h
      have h1 := hl _ (List.mem_singleton.2 rfl)
      simp only [nz2, decide_eq_true_eq] at h1
      rw [w4_spec ha, w4_spec hb]
      exact divmod_calls a b h1.1 h1.2.1 h1.2.2 w
    · cases h
  · cases h
def conFA : Con := alt 153 (g2 (plain2 mulV4)) (alt 142 (g1n (plain1n shrV4)) (alt 141 (g1n (plain1n shlV4)) (alt 140 (g1 lenV4) (alt 143 (g2 (plain2 addV4)) conN))))
theorem conFA_ok : ConOk conFA := alt_ok Tryz.func153 rfl (plain2_ok mul_calls) (alt_ok Tryz.func142 rfl (plain1n_ok shr_calls) (alt_ok Tryz.func141 rfl (plain1n_ok shl_calls) (alt_ok Tryz.func140 rfl (g1_ok wlen_calls) (alt_ok Tryz.func143 rfl (plain2_ok add_calls) conN_ok))))
/-- the two halves of a product; the product, cut; whether it is too great -/
def mLo (a b : W4) : W4 := W4.of (a.val * b.val)
def mHi (a b : W4) : W4 := W4.of (a.val * b.val / 115792089237316195423570985008687907853269984665640564039457584007913129639936)
def fmW (a b : W4) : W4 := W4.of ((shlW (mHi a b) 8).val + (shrW (mLo a b) 248).val)
def q2 (a b : W4) : Bool × Bool := (decide (a.ok ∧ b.ok), true)
def qk (a : W4) (n : Int) : Bool × Bool := (decide (a.ok ∧ -9223372036854775808 ≤ n ∧ n ≤ 9223372036854775807), true)
theorem fm_fits (a b : W4) : Fits (reckon (tabOf Tryz.prog extY conFA true) 300 167 [vW a, vW b] []) (.tuple #[vW (fmW a b), .bool (decide (lenI (mHi a b) > 248))]) [(decide (mHi a b).ok, true), q2 (shlW (mHi a b) 8) (shrW (mLo a b) 248), qk (mHi a b) 8, qk (mLo a b) 248, q2 a b] := ⟨by kernel_rfl, by kernel_rfl, by kernel_rfl, by kernel_rfl⟩
theorem len_gt {n k : Nat} : k < bitLen n ↔ 2 ^ k ≤ n := by
  have h := bitLen_spec n
  constructor
  · intro c
    have hn : n ≠ 0 := by
      rintro rfl
      exact absurd c (by decide +revert)
    exact Nat.le_trans (Nat.pow_le_pow_right (by omega) (by omega)) (h.2 hn)
  · intro c
    rcases Nat.lt_or_ge k (bitLen n) with e | e
    · exact e
    · have := Nat.pow_le_pow_right (show 0 < 2 by omega) e
      omega
theorem lenI_gt (x : W4) (k : Nat) : lenI x > k ↔ 2 ^ k ≤ x.nat := by
  unfold lenI W4.nat
  have := @len_gt x.val.toNat k
  omega
/-- what is answered, in plain numbers -/
def fmI (a b : W4) : Int := a.val * b.val / 452312848583266388373324160190187140051835877600158453279131187530910662656
def fmV4 (a b : W4) : Value := .tuple #[vW (W4.of (fmI a b)), .bool (decide (115792089237316195423570985008687907853269984665640564039457584007913129639936 ≤ fmI a b))]
theorem mul_bd2 {a b : W4} (ha : a.ok) (hb : b.ok) : 0 ≤ a.val * b.val ∧ a.val * b.val < 115792089237316195423570985008687907853269984665640564039457584007913129639936 * 115792089237316195423570985008687907853269984665640564039457584007913129639936 := by
  have h1 := W4.val_bd ha
  have h2 := W4.val_bd hb
  have h3 := Int.mul_nonneg h1.1 h2.1
  have h4 := Int.mul_le_mul (show a.val ≤ 115792089237316195423570985008687907853269984665640564039457584007913129639935 by omega) (show b.val ≤ 115792089237316195423570985008687907853269984665640564039457584007913129639935 by omega) h2.1 (by omega)
  constructor
  · exact h3
  · exact Int.lt_of_le_of_lt h4 (by decide)
theorem fm_calls (a b : W4) (ha : a.ok) (hb : b.ok) (w : World) : Calls Tryz.prog 167 #[vW a, vW b] w fun e w' => e = .returned (fmV4 a b) ∧ Tidy w w' := by
  have h := fits_calls (tabY_ok conFA_ok) (fm_fits a b) (okCons (decide_eq_true (W4.ok_of _)) (okCons (decide_eq_true ⟨by unfold shlW; rw [if_neg (by decide), if_neg (by decide)]; exact W4.ok_of _, by unfold shrW; rw [if_neg (by decide), if_neg (by decide)]; exact W4.ok_of _⟩) (okCons (decide_eq_true ⟨W4.ok_of _, by omega, by omega⟩) (okCons (decide_eq_true ⟨W4.ok_of _, by omega, by omega⟩) (okL1 (decide_eq_true ⟨ha, hb⟩)))))) (by rfl) (by rfl) w
  have bd := mul_bd2 ha hb
  have e1 : fmW a b = W4.of (fmI a b) := by
    have e8 : (2 : Int) ^ (8 : Int).toNat = 256 := rfl
    have e248 : (2 : Int) ^ (248 : Int).toNat = 452312848583266388373324160190187140051835877600158453279131187530910662656 := by rfl
    unfold fmW shlW shrW mHi mLo fmI
    rw [if_neg (by decide), if_neg (by decide), if_neg (by decide), if_neg (by decide), e8, e248]
    simp only [W4.val_of]
    generalize a.val * b.val = P at *
    rw [← of_mod (_ + _), ← of_mod (P / _)]
    congr 1
    omega
  have e2 : decide (lenI (mHi a b) > 248) = decide (115792089237316195423570985008687907853269984665640564039457584007913129639936 ≤ fmI a b) := by
    rw [decide_eq_decide]
    have g := lenI_gt (mHi a b) 248
    have p : (2 : Nat) ^ 248 = 452312848583266388373324160190187140051835877600158453279131187530910662656 := by rfl
    rw [p] at g
    have : (mHi a b).nat = (a.val * b.val / 115792089237316195423570985008687907853269984665640564039457584007913129639936).toNat := by
      unfold W4.nat mHi
      rw [W4.val_of, Int.emod_eq_of_lt (by omega) (by omega)]
    rw [this] at g
    unfold fmI
    generalize a.val * b.val = P at *
    omega
  rw [e1, e2] at h
  exact h
end Go.Proofs.YtjkgnbdeklploaaGreatDoor
namespace Go.Fx
/-- a sum of the first n -/
def sm (f : Nat → Rat) : Nat → Rat
  | 0 => 0
  | n + 1 => sm f n + f n
theorem sm_add (f g : Nat → Rat) : ∀ n, sm (fun i => f i + g i) n = sm f n + sm g n
  | 0 => by simp only [sm]; grind
  | n + 1 => by simp only [sm]; rw [sm_add f g n]; grind
theorem sm_congr {f g : Nat → Rat} : ∀ {n : Nat}, (∀ i, i < n → f i = g i) → sm f n = sm g n
  | 0, _ => rfl
  | n + 1, h => by simp only [sm]; rw [sm_congr (n := n) fun i hi => h i (by omega), h n (by omega)]
/-- the first one apart -/
theorem sm_head (f : Nat → Rat) : ∀ n, sm f (n + 1) = f 0 + sm (fun i => f (i + 1)) n
  | 0 => by simp only [sm]; grind
  | n + 1 => by
    have := sm_head f n
    simp only [sm] at this ⊢
    rw [this]
    grind
/-- a^m parted by m! -/
def pf (a : Rat) : Nat → Rat
  | 0 => 1
  | m + 1 => pf a m * a / ((m + 1 : Nat) : Rat)
theorem sm_neg (f : Nat → Rat) : ∀ n, sm (fun i => -f i) n = -sm f n
  | 0 => by simp only [sm]; grind
  | n + 1 => by simp only [sm]; rw [sm_neg f n]; grind
def snI (k : Nat) : Rat := if k % 4 = 1 then 1 else if k % 4 = 3 then -1 else 0
def s15 (x : Rat) (k : Nat) : Rat := snI k * pf x k
/-- the sign of the other number's power -/
def mns (j : Nat) : Rat := if j % 2 = 0 then 1 else -1
end Go.Fx
