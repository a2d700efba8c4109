/-
  What Div and Sqrt answer, in plain terms.
-/
import Derived.Test.YtnolcojnodoecaaG36
import Derived.Test.YtnolcojnodoecaaG04
import Derived.WalkKit
import Derived.ProofKit
import Derived.OpenShut
import Derived.Laws.IdiomArrays
import Derived.Lib.SmallJoins
namespace Go.Proofs.Ytnolcojnodoecaa
open Go.KRun Go.Wd Go.Pt Go.Rn

theorem quP_nan {m a b : Int} (h : 3 < cl a ∨ 3 < cl b) : quP m a b = 9221120237041090560 ∧ quF m a b = if cl a = 5 ∨ cl b = 5 then 1 else 0 := by
  unfold quP quF
  rw [if_pos h, if_pos h]
  exact ⟨rfl, rfl⟩
theorem quP_bad {m a b : Int} (h : ¬ (3 < cl a ∨ 3 < cl b)) (hb : (cl a = 0 ∧ cl b = 0) ∨ (cl a = 3 ∧ cl b = 3)) : quP m a b = 9221120237041090560 ∧ quF m a b = 1 := by
  unfold quP quF
  rw [if_neg h, if_neg h, if_pos hb, if_pos hb]
  exact ⟨rfl, rfl⟩
theorem quP_infa {m a b : Int} (ha : cl a = 3) (hb : cl b ≤ 2) : quP m a b = sS (prN a b) inf ∧ quF m a b = 0 := by
  unfold quP quF
  have h0 : ¬ (3 < cl a ∨ 3 < cl b) := by omega
  have h1 : ¬ ((cl a = 0 ∧ cl b = 0) ∨ (cl a = 3 ∧ cl b = 3)) := by omega
  rw [if_neg h0, if_neg h0, if_neg h1, if_neg h1, if_pos ha, if_pos ha]
  exact ⟨rfl, rfl⟩
theorem quP_infb {m a b : Int} (ha : cl a ≤ 2) (hb : cl b = 3) : quP m a b = sS (prN a b) 0 ∧ quF m a b = 0 := by
  unfold quP quF
  have h0 : ¬ (3 < cl a ∨ 3 < cl b) := by omega
  have h1 : ¬ ((cl a = 0 ∧ cl b = 0) ∨ (cl a = 3 ∧ cl b = 3)) := by omega
  have h2 : ¬ cl a = 3 := by omega
  rw [if_neg h0, if_neg h0, if_neg h1, if_neg h1, if_neg h2, if_neg h2, if_pos hb, if_pos hb]
  exact ⟨rfl, rfl⟩
theorem quP_zb {m a b : Int} (ha : cl a = 1 ∨ cl a = 2) (hb : cl b = 0) : quP m a b = sS (prN a b) inf ∧ quF m a b = 2 := by
  unfold quP quF
  have h0 : ¬ (3 < cl a ∨ 3 < cl b) := by omega
  have h1 : ¬ ((cl a = 0 ∧ cl b = 0) ∨ (cl a = 3 ∧ cl b = 3)) := by omega
  have h2 : ¬ cl a = 3 := by omega
  have h3 : ¬ cl b = 3 := by omega
  rw [if_neg h0, if_neg h0, if_neg h1, if_neg h1, if_neg h2, if_neg h2, if_neg h3, if_neg h3, if_pos hb, if_pos hb]
  exact ⟨rfl, rfl⟩
theorem quP_fin {m a b : Int} (ha : cl a ≤ 2) (hb : cl b = 1 ∨ cl b = 2) : quP m a b = sS (prN a b) (dvP m a b) ∧ quF m a b = dvF m a b := by
  unfold quP quF
  have h0 : ¬ (3 < cl a ∨ 3 < cl b) := by omega
  have h1 : ¬ ((cl a = 0 ∧ cl b = 0) ∨ (cl a = 3 ∧ cl b = 3)) := by omega
  have h2 : ¬ cl a = 3 := by omega
  have h3 : ¬ cl b = 3 := by omega
  have h4 : ¬ cl b = 0 := by omega
  rw [if_neg h0, if_neg h0, if_neg h1, if_neg h1, if_neg h2, if_neg h2, if_neg h3, if_neg h3, if_neg h4, if_neg h4]
  exact ⟨rfl, rfl⟩
/-- the ways that two numbers can go -/
theorem qu_ways {a b : Int} (h : ¬ (3 < cl a ∨ 3 < cl b)) : ((cl a = 0 ∧ cl b = 0) ∨ (cl a = 3 ∧ cl b = 3)) ∨ (cl a = 3 ∧ cl b ≤ 2) ∨ (cl a ≤ 2 ∧ cl b = 3) ∨ ((cl a = 1 ∨ cl a = 2) ∧ cl b = 0) ∨ (cl a ≤ 2 ∧ (cl b = 1 ∨ cl b = 2)) := by
  have ba := cl_bd a
  have bb := cl_bd b
  omega
theorem cl_one : cl 4607182418800017408 = 2 := by decide
theorem qu_one {m a : Int} (ha : U a) (h : cl a ≤ 3) : quP m a 4607182418800017408 = a ∧ quF m a 4607182418800017408 = 0 := by
  have ba := cl_bd a
  by_cases h3 : cl a = 3
  · obtain ⟨e1, e2⟩ := quP_infa (m := m) (b := 4607182418800017408) h3 (by rw [cl_one]; omega)
    rw [e1, e2]
    have hn : prN a 4607182418800017408 = sgn a := by unfold prN; rw [one_num.1]; cases sgn a <;> rfl
    rw [hn, show inf = mag a from ((mag_cl a).2.1.1 h3).symm, sS_own ha]
    exact ⟨rfl, rfl⟩
  · obtain ⟨e1, e2⟩ := quP_fin (m := m) (a := a) (b := 4607182418800017408) (by omega) (by rw [cl_one]; omega)
    obtain ⟨d1, d2, d3⟩ := dv_one (m := m) (fin_ex (show cl a ≤ 2 by omega))
    rw [e1, e2, d1, d2, d3, sS_own ha]
    exact ⟨rfl, rfl⟩
theorem qu_self {m a : Int} (h : cl a = 1 ∨ cl a = 2) : quP m a a = 4607182418800017408 ∧ quF m a a = 0 := by
  obtain ⟨e1, e2⟩ := quP_fin (m := m) (a := a) (b := a) (by omega) h
  obtain ⟨d1, d2, d3⟩ := dv_self (m := m) (a := a) (fun h0 => by have := (sg_zero (p := a) (by omega)).1 h0; omega)
  rw [e1, e2, d1, d2, d3]
  exact ⟨rfl, rfl⟩
theorem qu_self0 {m a : Int} (h : cl a = 0 ∨ cl a = 3) : quP m a a = 9221120237041090560 ∧ quF m a a = 1 := quP_bad (by omega) (by omega)
theorem sS_nan7 {n : Bool} {r : Int} (h0 : 0 ≤ r) (h1 : r ≤ 9218868437227405312) : sS n r ≠ 9221120237041090560 := by cases n <;> simp [sS] <;> omega
theorem qu_ng {m a b : Int} (hb : U b) (hm : swM m = m) (h : ¬ (3 < cl a ∨ 3 < cl b)) : quF m a b = quF m a (ng b) ∧ ((quP m a b = 9221120237041090560 ∧ quP m a (ng b) = quP m a b) ∨ (quP m a b ≠ 9221120237041090560 ∧ ng (quP m a b) = quP m a (ng b))) := by
  obtain ⟨_, _, ec, _⟩ := ng_num hb
  have en := prN_ng2 hb a
  rcases qu_ways h with h1 | ⟨h1, h2⟩ | ⟨h1, h2⟩ | ⟨h1, h2⟩ | ⟨h1, h2⟩
  · obtain ⟨e1, e2⟩ := quP_bad (m := m) h h1
    obtain ⟨f1, f2⟩ := quP_bad (m := m) (a := a) (b := ng b) (by rw [ec]; exact h) (by rw [ec]; exact h1)
    exact ⟨by rw [e2, f2], .inl ⟨e1, by rw [e1, f1]⟩⟩
  · obtain ⟨e1, e2⟩ := quP_infa (m := m) h1 h2
    obtain ⟨f1, f2⟩ := quP_infa (m := m) (b := ng b) h1 (by rw [ec]; exact h2)
    exact ⟨by rw [e2, f2], .inr ⟨by rw [e1]; exact sS_nan7 (by decide) (by decide), by rw [e1, f1, en, ng_sS (by decide) (by decide)]⟩⟩
  · obtain ⟨e1, e2⟩ := quP_infb (m := m) h1 h2
    obtain ⟨f1, f2⟩ := quP_infb (m := m) (b := ng b) h1 (by rw [ec]; exact h2)
    exact ⟨by rw [e2, f2], .inr ⟨by rw [e1]; exact sS_nan7 (by decide) (by decide), by rw [e1, f1, en, ng_sS (by decide) (by decide)]⟩⟩
  · obtain ⟨e1, e2⟩ := quP_zb (m := m) h1 h2
    obtain ⟨f1, f2⟩ := quP_zb (m := m) (b := ng b) h1 (by rw [ec]; exact h2)
    exact ⟨by rw [e2, f2], .inr ⟨by rw [e1]; exact sS_nan7 (by decide) (by decide), by rw [e1, f1, en, ng_sS (by decide) (by decide)]⟩⟩
  · obtain ⟨e1, e2⟩ := quP_fin (m := m) h1 h2
    obtain ⟨f1, f2⟩ := quP_fin (m := m) (b := ng b) h1 (by rw [ec]; exact h2)
    have d := dv_ng (m := m) hb a
    rw [hm] at d
    have bd := dv_bd m a b
    rw [en, d.1] at f1
    rw [d.2] at f2
    have hx : ng (sS (prN a b) (dvP m a b)) = sS (!prN a b) (dvP m a b) := ng_sS bd.1 (Int.lt_of_le_of_lt bd.2 (by decide))
    refine ⟨e2.trans f2.symm, .inr ⟨fun h0 => sS_nan7 bd.1 bd.2 (e1.symm.trans h0), ?_⟩⟩
    rw [e1, f1, hx]
/-! ### Down and Up -/
def f16' (f : Int) : Int := IntKind.u8.wrap ((BitVec.ofInt IntKind.u8.bits f &&& BitVec.ofInt IntKind.u8.bits 16).toNat : Nat)
theorem f16_in' {f : Int} (h : f = 16 ∨ f = 20 ∨ f = 24) : f16' f ≠ 0 := by rcases h with rfl | rfl | rfl <;> decide
theorem mag_parts (p : Int) : sgn (mag p) = false ∧ U (mag p) ∧ mag (mag p) = mag p := by
  have := mag_lt (p := p)
  refine ⟨decide_eq_false (by omega), ⟨by omega, by omega⟩, by unfold mag; omega⟩
theorem qu_sides {m a b : Int} (ha : sgn a = false) (hb : sgn b = false) :
    (∀ k, quP k a b = 9221120237041090560 ∧ quF k a b = quF 0 a b) ∨ ((∀ k, quP k a b ≠ 9221120237041090560) ∧ (((∀ k, quP k a b = quP 0 a b ∧ f16' (quF k a b) = 0)) ∨ (quP 3 a b = quP 4 a b + 1 ∧ 0 ≤ quP 4 a b ∧ quP 4 a b ≤ 9218868437227405312 ∧ (quP m a b = quP 4 a b ∨ quP m a b = quP 3 a b) ∧ ∀ k, f16' (quF k a b) ≠ 0))) := by
  have hn : prN a b = false := by unfold prN; rw [ha, hb]; rfl
  by_cases h : 3 < cl a ∨ 3 < cl b
  · exact .inl fun k => ⟨(quP_nan h).1, by rw [(quP_nan h).2, (quP_nan (m := 0) h).2]⟩
  rcases qu_ways h with h1 | ⟨h1, h2⟩ | ⟨h1, h2⟩ | ⟨h1, h2⟩ | ⟨h1, h2⟩
  · exact .inl fun k => ⟨(quP_bad h h1).1, by rw [(quP_bad h h1).2, (quP_bad (m := 0) h h1).2]⟩
  · refine .inr ⟨fun k => by rw [(quP_infa h1 h2).1]; exact sS_nan7 (by decide) (by decide), .inl fun k => ⟨by rw [(quP_infa h1 h2).1, (quP_infa (m := 0) h1 h2).1], by rw [(quP_infa h1 h2).2]; decide⟩⟩
  · refine .inr ⟨fun k => by rw [(quP_infb h1 h2).1]; exact sS_nan7 (by decide) (by decide), .inl fun k => ⟨by rw [(quP_infb h1 h2).1, (quP_infb (m := 0) h1 h2).1], by rw [(quP_infb h1 h2).2]; decide⟩⟩
  · refine .inr ⟨fun k => by rw [(quP_zb h1 h2).1]; exact sS_nan7 (by decide) (by decide), .inl fun k => ⟨by rw [(quP_zb h1 h2).1, (quP_zb (m := 0) h1 h2).1], by rw [(quP_zb h1 h2).2]; decide⟩⟩
  · have e : ∀ k, quP k a b = dvP k a b ∧ quF k a b = dvF k a b := fun k => by
      obtain ⟨e1, e2⟩ := quP_fin (m := k) h1 h2
      rw [e1, e2, hn]
      exact ⟨by simp [sS], rfl⟩
    refine .inr ⟨fun k => by have := dv_bd k a b; rw [(e k).1]; omega, ?_⟩
    unfold dvP dvF at e
    rw [hn] at e
    cases hi : inex (dvT a b) (dvE a b) with
    | false =>
      refine .inl fun k => ?_
      obtain ⟨p1, f1⟩ := exact_of (m := k) (neg := false) hi
      obtain ⟨p0, f0⟩ := exact_of (m := 0) (neg := false) hi
      rw [(e k).1, (e k).2, (e 0).1, p1, p0, f1]
      exact ⟨rfl, by decide⟩
    | true =>
      obtain ⟨p3, p4⟩ := inex_side (neg := false) hi
      have pm := inex_P (m := m) (neg := false) hi
      have cb := cut_bd hi
      simp only [Bool.false_eq_true, if_false, Int.add_zero] at p3 p4
      refine .inr ⟨by rw [(e 3).1, (e 4).1, p3, p4], by rw [(e 4).1, p4]; exact cb.1, by rw [(e 4).1, p4]; omega, ?_, fun k => by rw [(e k).2]; exact f16_in' (inex_F hi)⟩
      rw [(e m).1, (e 3).1, (e 4).1, p3, p4]
      exact pm
/-! ### squares -/
theorem muP_fin7 {m a b : Int} (ha : cl a ≤ 2) (hb : cl b ≤ 2) : muP m a b = sS (prN a b) (mlP m a b) ∧ muF m a b = mlF m a b := by
  have hbd : badB a b = false := decide_eq_false (by omega)
  have h0 : ¬ (3 < cl a ∨ 3 < cl b) := by omega
  have h1 : ¬ (cl a = 3 ∨ cl b = 3) := by omega
  unfold muP muF
  rw [hbd, if_neg Bool.false_ne_true, if_neg Bool.false_ne_true, if_neg h0, if_neg h0, if_neg h1, if_neg h1]
  exact ⟨rfl, rfl⟩
theorem muP_inf7 {m a : Int} (ha : cl a = 3) : muP m a a = inf ∧ muF m a a = 0 := by
  have hbd : badB a a = false := decide_eq_false (by omega)
  have h0 : ¬ (3 < cl a ∨ 3 < cl a) := by omega
  unfold muP muF
  rw [hbd, if_neg Bool.false_ne_true, if_neg Bool.false_ne_true, if_neg h0, if_neg h0, if_pos (.inl ha), if_pos (.inl ha), prN_self]
  exact ⟨by simp [sS], rfl⟩
theorem mu_U7 {m a b : Int} : U (muP m a b) := by
  have bd := ml_bd m a b
  unfold muP
  split
  · exact by decide
  · split
    · exact by decide
    · split
      · cases prN a b <;> exact by decide
      · exact (sS_mag bd.1 (by omega)).2.2.1
theorem pos_cl {p : Int} (h0 : 0 < p) (h1 : p < 9218868437227405312) : sgn p = false ∧ (cl p = 1 ∨ cl p = 2) ∧ sg p ≠ 0 := by
  have hm : mag p = p := by unfold mag; omega
  have h2 := (mag_cl p).2.2.2 (by omega)
  have hs : sgn p = false := decide_eq_false (by omega)
  have b := cl_bd p
  have hz : cl p ≠ 0 := by
    intro hz
    have e := mag_eq p
    have : ex p = 0 ∧ fr p = 0 := by
      unfold cl at hz
      split at hz
      · rename_i h3
        split at hz
        · rename_i h4; exact ⟨h3, h4⟩
        · omega
      · split at hz
        · split at hz
          · omega
          · split at hz <;> omega
        · omega
    omega
  exact ⟨hs, by omega, fun h => hz ((sg_zero h2).1 h)⟩
/-- the root of a square without flags -/
theorem sq_back {a : Int} (h : cl a ≤ 3) (hf : muF 0 a a = 0) : sqP 0 (muP 0 a a) = mag a ∧ sqF 0 (muP 0 a a) = 0 := by
  by_cases h3 : cl a = 3
  · rw [(muP_inf7 h3).1, (mag_cl a).2.1.1 h3]
    decide
  · have h2 : cl a ≤ 2 := by omega
    obtain ⟨e1, e2⟩ := muP_fin7 (m := 0) h2 h2
    rw [prN_self] at e1
    rw [e2] at hf
    have e1 : muP 0 a a = mlP 0 a a := by rw [e1]; simp [sS]
    rw [e1]
    by_cases hz : sg a = 0
    · have hz2 := (sg_zero h2).1 hz
      have hm : mag a = 0 := by
        have e := mag_eq a
        unfold cl at hz2
        split at hz2
        · rename_i h4
          split at hz2
          · rename_i h5; omega
          · omega
        · split at hz2
          · split at hz2
            · omega
            · split at hz2 <;> omega
          · omega
      have hv : prV a a = 0 := by unfold prV; rw [hz]; rfl
      have hp : mlP 0 a a = 0 := by unfold mlP rnP; rw [hv, if_pos rfl]
      rw [hp, hm]
      decide
    · have hs := sg_lt a
      have hT : prV a a ≠ 0 := by
        unfold prV
        exact Nat.mul_ne_zero (by omega) (by omega)
      have hE := prE_bd a a
      obtain ⟨j, hj⟩ : ∃ j : Nat, (j : Int) = 1074 := ⟨1074, rfl⟩
      obtain ⟨x1, x2⟩ := ml_exact (m := 0) (n := prN a a) hj hT (by omega) hf
      have bd := ml_bd 0 a a
      have x1 : uV (mlP 0 a a) * 2 ^ j = prV a a * 2 ^ (prE a a + 2148).toNat := x1
      have x2 : mlP 0 a a < 9218868437227405312 := x2
      have h0 : mlP 0 a a ≠ 0 := by
        intro h0
        have hu : uV 0 = 0 := by decide
        rw [h0, hu, Nat.zero_mul] at x1
        exact absurd x1.symm (Nat.mul_ne_zero hT (Nat.ne_of_gt (Nat.pow_pos (by omega))))
      obtain ⟨p1, p2, p3⟩ := pos_cl (p := mlP 0 a a) (by omega) x2
      obtain ⟨r1, r2⟩ := rt_square (m := 0) (a := a) (s := mlP 0 a a) hj (fin_ex h2) p3 x1
      have k1 : ¬ 3 < cl (mlP 0 a a) := by omega
      have k2 : ¬ cl (mlP 0 a a) = 0 := by omega
      have k3 : ¬ sgn (mlP 0 a a) = true := by rw [p1]; decide
      have k4 : ¬ cl (mlP 0 a a) = 3 := by omega
      unfold sqP sqF
      rw [if_neg k1, if_neg k1, if_neg k2, if_neg k2, if_neg k3, if_neg k3, if_neg k4, if_neg k4]
      exact ⟨r1, r2⟩
theorem sq_sides {b : Int} (h0 : 0 < b) (h1 : b < 9218868437227405312) : ((sqP 3 b = sqP 4 b ∧ sqF 3 b = 0 ∧ sqF 4 b = 0) ∨ (sqP 3 b = sqP 4 b + 1 ∧ sqF 3 b = 16 ∧ sqF 4 b = 16)) ∧ 0 ≤ sqP 4 b ∧ sqP 4 b ≤ 9218868437227405312 := by
  obtain ⟨p1, p2, p3⟩ := pos_cl h0 h1
  have e : ∀ k, sqP k b = rtP k b ∧ sqF k b = rtF k b := fun k => by
    have k1 : ¬ 3 < cl b := by omega
    have k2 : ¬ cl b = 0 := by omega
    have k3 : ¬ sgn b = true := by rw [p1]; decide
    have k4 : ¬ cl b = 3 := by omega
    unfold sqP sqF
    rw [if_neg k1, if_neg k1, if_neg k2, if_neg k2, if_neg k3, if_neg k3, if_neg k4, if_neg k4]
    exact ⟨rfl, rfl⟩
  rw [(e 3).1, (e 3).2, (e 4).1, (e 4).2]
  exact ⟨rt_sides p3, rt_bd 4 b⟩
end Go.Proofs.Ytnolcojnodoecaa

/-
  The row's side: an argument that is four words of 64 bits, opened and shut; what a call that only makes memory leaves.
-/
namespace Go.KRun
open Go.ChangeShapes Go.WideShapes Go.ChangeAt Go.RowKit Go.Joins

section
variable {H : Type} {enc : TypeId × Value → H} {P : Program} {w : World} {base : Nat} {spare : Nat → Bool} {held : Bool}

theorem open_w4 {r : Go.Reach} {b0 : Nat} {t e : TypeId} {v : Value} {d : DataW H} {p : List MemPlace} (hu : P.underlying t = some (.array 4 e)) (hue : P.underlying e = some (.int .u64)) (hC : P.cellsOf t = 4) (hce : P.cellsOf e = 1)
    (hv : Value.okWide P w r b0 t v) (h : DataW.Trod enc P w base spare held t v d p) :
    ∃ a0 a1 a2 a3 : Int, v = .agg #[.int .u64 a0, .int .u64 a1, .int .u64 a2, .int .u64 a3] ∧ d = .agg [.lit (.int .u64 a0), .lit (.int .u64 a1), .lit (.int .u64 a2), .lit (.int .u64 a3)] ∧ p = [] ∧
      (Lit.int .u64 a0).wf = true ∧ (Lit.int .u64 a1).wf = true ∧ (Lit.int .u64 a2).wf = true ∧ (Lit.int .u64 a3).wf = true := by
  have hv' := hv
  simp only [Value.okWide, hu] at hv'
  obtain ⟨cs, rfl, hsz, _⟩ := hv'
  obtain ⟨c0, c1, c2, c3, rfl⟩ := array4 (hsz.trans hC)
  obtain ⟨fuel, hf⟩ := h
  have hf' : DataW.trod enc P w base spare held fuel t [c0, c1, c2, c3] = some (d, p) := by simpa [Value.cells] using hf
  obtain ⟨y0, y1, y2, y3, n, hx, h0, h1, h2, h3⟩ := trod_array4 hu hce hf'
  obtain ⟨a0, e0, rfl, w0⟩ := DataW.trod_int hue h0
  obtain ⟨a1, e1, rfl, w1⟩ := DataW.trod_int hue h1
  obtain ⟨a2, e2, rfl, w2⟩ := DataW.trod_int hue h2
  obtain ⟨a3, e3, rfl, w3⟩ := DataW.trod_int hue h3
  simp only [List.cons.injEq, and_true] at e0 e1 e2 e3
  subst e0 e1 e2 e3
  simp only [Prod.mk.injEq] at hx
  exact ⟨a0, a1, a2, a3, rfl, hx.1, by simpa using hx.2, w0, w1, w2, w3⟩

theorem shut_w4 {t e : TypeId} (hu : P.underlying t = some (.array 4 e)) (hue : P.underlying e = some (.int .u64)) (hC : P.cellsOf t = 4) (hce : P.cellsOf e = 1) {a0 a1 a2 a3 : Int}
    (w0 : (Lit.int .u64 a0).wf = true) (w1 : (Lit.int .u64 a1).wf = true) (w2 : (Lit.int .u64 a2).wf = true) (w3 : (Lit.int .u64 a3).wf = true) :
    DataW.Trod enc P w base spare held t (.agg #[.int .u64 a0, .int .u64 a1, .int .u64 a2, .int .u64 a3]) (.agg [.lit (.int .u64 a0), .lit (.int .u64 a1), .lit (.int .u64 a2), .lit (.int .u64 a3)]) [] := by
  refine ⟨2, ?_⟩
  have r4 : List.range 4 = [0, 1, 2, 3] := rfl
  have one : ∀ a : Int, (Lit.int .u64 a).wf = true → DataW.trod enc P w base spare held 1 e [.int .u64 a] = some (.lit (.int .u64 a), []) := fun a ha => by
    simp [DataW.trod, hue, ha]
  simp only [Value.cells]
  unfold DataW.trod
  simp [hu, hC, hce, r4, one a0 w0, one a1 w1, one a2 w2, one a3 w3]
end

theorem tidy_frozen {w w' : World} (h : Tidy w w') (a : Addr) : w'.frozen? a = w.frozen? a := by
  unfold World.frozen?
  by_cases h1 : a.block < w.heap.size
  · rw [h.1.block _ h1]
  · rw [Array.getElem?_eq_none (by omega : w.heap.size ≤ a.block)]
    by_cases h2 : a.block < w'.heap.size
    · obtain ⟨c, e, h3⟩ := h.2 a.block (by omega) h2
      rw [h3]
      simp
    · rw [Array.getElem?_eq_none (by omega : w'.heap.size ≤ a.block)]
theorem u64_bounds {n : Int} (h : (Lit.int .u64 n).wf = true) : 0 ≤ n ∧ n < 18446744073709551616 := by
  simp [Lit.wf, IntKind.min, IntKind.max, IntKind.signed, IntKind.bits] at h
  omega
theorem i64_bounds {n : Int} (h : (Lit.int .i64 n).wf = true) : -9223372036854775808 ≤ n ∧ n ≤ 9223372036854775807 := by
  simp [Lit.wf, IntKind.min, IntKind.max, IntKind.signed, IntKind.bits] at h
  omega
end Go.KRun
