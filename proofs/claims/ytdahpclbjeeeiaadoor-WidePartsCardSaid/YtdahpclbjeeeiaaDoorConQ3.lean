/-
  The numbers behind a digit of the quotient: what is taken off and put back, and that the right digit comes.
-/
import Derived.Test.YtdahpclbjeeeiaaDoorConQ2
import Derived.Test.YtdahpclbjeeeiaaDoorCon6
namespace Go.Proofs.YtdahpclbjeeeiaaDoor
open Go.KRun Go.Wd
set_option maxRecDepth 100000

theorem vB_append : ∀ (l m : List Int), vB (l ++ m) = vB l + 18446744073709551616 ^ l.length * vB m
  | [], m => by simp [vB]
  | d :: ds, m => by
    simp only [List.cons_append, vB, List.length_cons, Int.pow_succ]
    rw [vB_append ds m, Int.mul_add, Int.mul_comm (18446744073709551616 ^ ds.length) 18446744073709551616, Int.mul_assoc]
    omega
theorem vB_bd : ∀ (l : List Int), words l → 0 ≤ vB l ∧ vB l < 18446744073709551616 ^ l.length
  | [], _ => by simp [vB]
  | d :: ds, h => by
    have h1 := vB_bd ds fun x hx => h x (List.mem_cons_of_mem _ hx)
    have h2 := h d List.mem_cons_self
    unfold word at h2
    simp only [vB, List.length_cons, Int.pow_succ]
    rw [Int.mul_comm (18446744073709551616 ^ ds.length)]
    omega
theorem sb_spec {x y c : Int} (hx : word x) (hy : word y) (hc : 0 ≤ c ∧ c ≤ 1) : word (Go.Wd.sb x y c) ∧ (bo x y c = 0 ∨ bo x y c = 1) ∧ Go.Wd.sb x y c = x - y - c + 18446744073709551616 * bo x y c := by
  unfold word Go.Wd.sb at *
  have := bo_spec x y c
  generalize bo x y c = k at *
  omega
theorem ad_spec {x y c : Int} (hx : word x) (hy : word y) (hc : 0 ≤ c ∧ c ≤ 1) : word (ad x y c) ∧ (ca x y c = 0 ∨ ca x y c = 1) ∧ ad x y c + 18446744073709551616 * ca x y c = x + y + c := by
  unfold word ad ca at *
  omega
theorem off_spec {q : Int} (hq : word q) : ∀ (ys ps : List Int) (c b : Int) (L : Log), words ys → words ps → ps.length = ys.length + 1 → word c → (0 ≤ b ∧ b ≤ 1) → okLog L →
    words (offL q ys ps c b) ∧ (offL q ys ps c b).length = ps.length ∧ (offB q ys ps c b = 0 ∨ offB q ys ps c b = 1) ∧ okLog (offG q ys ps c b L) ∧
      vB (offL q ys ps c b) = vB ps - vB ys * q - c - b + 18446744073709551616 ^ ps.length * offB q ys ps c b
  | [], [p], c, b, L, _, hp, _, hc, hb, hL => by
    have p1 := hp p List.mem_cons_self
    obtain ⟨e1, e2, e3⟩ := sb_spec p1 hc hb
    refine ⟨fun d hd => ?_, rfl, e2, okCons (decide_eq_true ⟨p1.1, hc.1, hc.2, hb.1, hb.2⟩) (okCons no_ok hL), ?_⟩
    · simp only [offL, List.mem_singleton] at hd
      rw [hd]; exact e1
    · simp only [offL, offB, vB, List.length_cons, List.length_nil]
      rw [e3]
      omega
  | y :: ys, p :: ps, c, b, L, hy, hp, hl, hc, hb, hL => by
    have y1 := hy y List.mem_cons_self
    have p1 := hp p List.mem_cons_self
    have w0 : word 0 := by unfold word; omega
    obtain ⟨l1, l2, l3⟩ := lohi y1 hq w0 hc
    obtain ⟨e1, e2, e3⟩ := sb_spec p1 l1 hb
    simp only [List.length_cons, Nat.add_right_cancel_iff] at hl
    obtain ⟨g1, g2, g3, g4, g5⟩ := off_spec hq ys ps (hi y q 0 c) (bo p (lo y q 0 c) b) (okS p (lo y q 0 c) b :: wl y q 0 c :: yes :: L) (fun x hx => hy x (List.mem_cons_of_mem _ hx)) (fun x hx => hp x (List.mem_cons_of_mem _ hx)) hl l2 (by omega)
      (okCons (decide_eq_true ⟨p1.1, l1.1, l1.2, hb.1, hb.2⟩) (okCons (decide_eq_true ⟨y1, hq, w0, hc⟩) (okCons yes_ok hL)))
    refine ⟨fun d hd => ?_, by simp only [offL, List.length_cons, g2], g3, g4, ?_⟩
    · simp only [offL] at hd
      rcases List.mem_cons.1 hd with rfl | hd
      · exact e1
      · exact g1 d hd
    · simp only [offL, offB, vB, List.length_cons, Int.pow_succ]
      rw [g5, e3, Int.mul_comm (18446744073709551616 ^ ps.length) 18446744073709551616, Int.mul_assoc, Int.add_mul, Int.mul_assoc]
      generalize 18446744073709551616 ^ ps.length * offB q ys ps (hi y q 0 c) (bo p (lo y q 0 c) b) = t at *
      generalize vB ys * q = v at *
      generalize y * q = z at *
      omega
  | [], [], _, _, _, _, _, hl, _, _, _ => by simp at hl
  | _ :: _, [], _, _, _, _, _, hl, _, _, _ => by simp at hl
  | [], _ :: _ :: _, _, _, _, _, _, hl, _, _, _ => by simp at hl
theorem put_spec : ∀ (ys ps : List Int) (c : Int) (L : Log), words ys → words ps → ps.length = ys.length + 1 → (0 ≤ c ∧ c ≤ 1) → okLog L →
    words (putL_ ys ps c) ∧ (putL_ ys ps c).length = ps.length ∧ (putC ys ps c = 0 ∨ putC ys ps c = 1) ∧ okLog (putG ys ps c L) ∧
      vB (putL_ ys ps c) + 18446744073709551616 ^ ps.length * putC ys ps c = vB ps + vB ys + c
  | [], [p], c, L, _, hp, _, hc, hL => by
    have p1 := hp p List.mem_cons_self
    have w0 : word 0 := by unfold word; omega
    obtain ⟨e1, e2, e3⟩ := ad_spec p1 w0 hc
    refine ⟨fun d hd => ?_, rfl, e2, okCons (decide_eq_true ⟨p1.1, by omega, hc.1, hc.2⟩) (okCons no_ok hL), ?_⟩
    · simp only [putL_, List.mem_singleton] at hd
      rw [hd]; exact e1
    · simp only [putL_, putC, vB, List.length_cons, List.length_nil]
      omega
  | y :: ys, p :: ps, c, L, hy, hp, hl, hc, hL => by
    have y1 := hy y List.mem_cons_self
    have p1 := hp p List.mem_cons_self
    obtain ⟨e1, e2, e3⟩ := ad_spec p1 y1 hc
    simp only [List.length_cons, Nat.add_right_cancel_iff] at hl
    obtain ⟨g1, g2, g3, g4, g5⟩ := put_spec ys ps (ca p y c) (okA p y c :: yes :: L) (fun x hx => hy x (List.mem_cons_of_mem _ hx)) (fun x hx => hp x (List.mem_cons_of_mem _ hx)) hl (by omega)
      (okCons (decide_eq_true ⟨p1.1, y1.1, hc.1, hc.2⟩) (okCons yes_ok hL))
    refine ⟨fun d hd => ?_, by simp only [putL_, List.length_cons, g2], g3, g4, ?_⟩
    · simp only [putL_] at hd
      rcases List.mem_cons.1 hd with rfl | hd
      · exact e1
      · exact g1 d hd
    · simp only [putL_, putC, vB, List.length_cons, Int.pow_succ]
      rw [Int.mul_comm (18446744073709551616 ^ ps.length) 18446744073709551616, Int.mul_assoc]
      generalize 18446744073709551616 ^ ps.length * putC ys ps (ca p y c) = t at *
      omega
  | [], [], _, _, _, _, hl, _, _ => by simp at hl
  | _ :: _, [], _, _, _, _, hl, _, _ => by simp at hl
  | [], _ :: _ :: _, _, _, _, _, hl, _, _ => by simp at hl
end Go.Proofs.YtdahpclbjeeeiaaDoor
