/-
  Products of the seat's program, III: what wide.Mul answers is the product.
-/
import Derived.Test.YtbcpnpchioncbaaG35
namespace Go.Proofs.Ytbcpnpchioncbaa
open Go.KRun Go.Wd
set_option maxRecDepth 100000

def vB : List Int → Int
  | [] => 0
  | d :: ds => d + 18446744073709551616 * vB ds
def words (l : List Int) : Prop := ∀ d ∈ l, word d
theorem lohi {x y z c : Int} (hx : word x) (hy : word y) (hz : word z) (hc : word c) : word (lo x y z c) ∧ word (hi x y z c) ∧ lo x y z c + 18446744073709551616 * hi x y z c = x * y + z + c := by
  have bd := ma_arith hx hy
  unfold lo hi word at *
  generalize x * y = p at *
  omega
theorem row_spec {x : Int} (hx : word x) : ∀ (ys zs : List Int) (c j : Int) (L : Log), words ys → words zs → word c → ys.length = zs.length → 0 ≤ j → j + ys.length ≤ 4 → okLog L →
    words (rowF x ys zs c) ∧ (rowF x ys zs c).length = ys.length + 1 ∧ vB (rowF x ys zs c) = vB zs + x * vB ys + c ∧ okLog (rowG x ys zs c j L)
  | [], [], c, j, L, _, _, hc, _, _, _, hL => by
    refine ⟨fun d hd => ?_, rfl, by simp [rowF, vB], okCons (by rfl) hL⟩
    simp only [rowF, List.mem_singleton] at hd
    rw [hd]; exact hc
  | y :: ys, z :: zs, c, j, L, hy, hz, hc, hl, h0, hj, hL => by
    have y1 := hy y List.mem_cons_self
    have z1 := hz z List.mem_cons_self
    obtain ⟨e1, e2, e3⟩ := lohi hx y1 z1 hc
    simp only [List.length_cons] at hl hj
    obtain ⟨g1, g2, g3, g4⟩ := row_spec hx ys zs (hi x y z c) (j + 1) (wl x y z c :: jl j :: L) (fun d hd => hy d (List.mem_cons_of_mem _ hd)) (fun d hd => hz d (List.mem_cons_of_mem _ hd)) e2 (by omega) (by omega) (by omega)
      (okCons (decide_eq_true ⟨hx, y1, z1, hc⟩) (okCons (decide_eq_true (by omega : j < 4)) hL))
    refine ⟨fun d hd => ?_, by simp only [rowF, List.length_cons, g2], ?_, g4⟩
    · simp only [rowF] at hd
      rcases List.mem_cons.1 hd with rfl | hd
      · exact e1
      · exact g1 d hd
    · simp only [rowF, vB]
      rw [g3]
      have : x * (y + 18446744073709551616 * vB ys) = x * y + 18446744073709551616 * (x * vB ys) := by rw [Int.mul_add, Int.mul_left_comm]
      rw [this]
      generalize x * vB ys = q at *
      generalize x * y = p at *
      omega
  | [], _ :: _, _, _, _, _, _, _, hl, _, _, _ => by simp at hl
  | _ :: _, [], _, _, _, _, _, _, hl, _, _, _ => by simp at hl
theorem vB_snoc0 : ∀ l : List Int, vB (l ++ [0]) = vB l
  | [] => rfl
  | d :: ds => by simp only [List.cons_append, vB, vB_snoc0 ds]
theorem rowDm_spec {x i : Int} (hx : word x) (hi : i < 4) {ys zs : List Int} (hy : words ys) (hz : words zs) (ly : ys.length = 4) (lz : zs.length = 4) {L : Log} (hL : okLog L) :
    ∃ h t, rowDm (x == 0) x ys zs = h :: t ∧ word h ∧ words t ∧ t.length = 4 ∧ h + 18446744073709551616 * vB t = vB zs + x * vB ys ∧ okLog (rowE (x == 0) i x ys zs L) := by
  have key : words (rowDm (x == 0) x ys zs) ∧ (rowDm (x == 0) x ys zs).length = 5 ∧ vB (rowDm (x == 0) x ys zs) = vB zs + x * vB ys ∧ okLog (rowE (x == 0) i x ys zs L) := by
    have ji : (jl i).1 = (jl i).2 := decide_eq_true hi
    by_cases h : x = 0
    · have hb : (x == 0) = true := beq_iff_eq.2 h
      rw [hb]
      refine ⟨fun d hd => ?_, by simp [rowDm, lz], ?_, okCons hb (okCons ji hL)⟩
      · simp only [rowDm] at hd
        rcases List.mem_append.1 hd with hd | hd
        · exact hz d hd
        · rw [List.mem_singleton.1 hd]; unfold word; omega
      · simp only [rowDm, vB_snoc0]
        rw [h]; omega
    · have hb : (x == 0) = false := beq_eq_false_iff_ne.2 h
      rw [hb]
      obtain ⟨g1, g2, g3, g4⟩ := row_spec hx ys zs 0 0 ((x == 0, false) :: jl i :: L) hy hz (by unfold word; omega) (by omega) (by omega) (by omega) (okCons hb (okCons ji hL))
      exact ⟨g1, by simp only [rowDm]; omega, by simp only [rowDm]; omega, g4⟩
  obtain ⟨k1, k2, k3, k4⟩ := key
  match hr : rowDm (x == 0) x ys zs, k1, k2, k3 with
  | h :: t, k1, k2, k3 =>
    exact ⟨h, t, rfl, k1 h List.mem_cons_self, fun d hd => k1 d (List.mem_cons_of_mem _ hd), by simpa using k2, k3, k4⟩
def mulV4 (x y : W4) : Value := .tuple #[vW (W4.of (x.val * y.val)), vW (W4.of (x.val * y.val / 115792089237316195423570985008687907853269984665640564039457584007913129639936))]
theorem ysOf_val (y : W4) : vB (ysOf y) = y.val := by unfold ysOf W4.val; simp only [vB]; omega
end Go.Proofs.Ytbcpnpchioncbaa

/-
  The numbers behind a digit of the quotient: what is taken off and put back, and that the right digit comes.
-/
namespace Go.Proofs.Ytbcpnpchioncbaa
open Go.KRun Go.Wd
set_option maxRecDepth 100000

theorem vB_append : ∀ (l m : List Int), vB (l ++ m) = vB l + 18446744073709551616 ^ l.length * vB m
  | [], m => by simp [vB]
  | d :: ds, m => by
    simp only [List.cons_append, vB, List.length_cons, Int.pow_succ]
    rw [vB_append ds m, Int.mul_add, Int.mul_comm (18446744073709551616 ^ ds.length) 18446744073709551616, Int.mul_assoc]
    omega
theorem vB_bd : ∀ (l : List Int), words l → 0 ≤ vB l ∧ vB l < 18446744073709551616 ^ l.length
  | [], _ => by simp [vB]
  | d :: ds, h => by
    have h1 := vB_bd ds fun x hx => h x (List.mem_cons_of_mem _ hx)
    have h2 := h d List.mem_cons_self
    unfold word at h2
    simp only [vB, List.length_cons, Int.pow_succ]
    rw [Int.mul_comm (18446744073709551616 ^ ds.length)]
    omega
theorem sb_spec {x y c : Int} (hx : word x) (hy : word y) (hc : 0 ≤ c ∧ c ≤ 1) : word (Go.Wd.sb x y c) ∧ (bo x y c = 0 ∨ bo x y c = 1) ∧ Go.Wd.sb x y c = x - y - c + 18446744073709551616 * bo x y c := by
  unfold word Go.Wd.sb at *
  have := bo_spec x y c
  generalize bo x y c = k at *
  omega
theorem ad_spec {x y c : Int} (hx : word x) (hy : word y) (hc : 0 ≤ c ∧ c ≤ 1) : word (ad x y c) ∧ (ca x y c = 0 ∨ ca x y c = 1) ∧ ad x y c + 18446744073709551616 * ca x y c = x + y + c := by
  unfold word ad ca at *
  omega
theorem off_spec {q : Int} (hq : word q) : ∀ (ys ps : List Int) (c b : Int) (L : Log), words ys → words ps → ps.length = ys.length + 1 → word c → (0 ≤ b ∧ b ≤ 1) → okLog L →
    words (offL q ys ps c b) ∧ (offL q ys ps c b).length = ps.length ∧ (offB q ys ps c b = 0 ∨ offB q ys ps c b = 1) ∧ okLog (offG q ys ps c b L) ∧
      vB (offL q ys ps c b) = vB ps - vB ys * q - c - b + 18446744073709551616 ^ ps.length * offB q ys ps c b
  | [], [p], c, b, L, _, hp, _, hc, hb, hL => by
    have p1 := hp p List.mem_cons_self
    obtain ⟨e1, e2, e3⟩ := sb_spec p1 hc hb
    refine ⟨fun d hd => ?_, rfl, e2, okCons (decide_eq_true ⟨p1.1, hc.1, hc.2, hb.1, hb.2⟩) (okCons no_ok hL), ?_⟩
    · simp only [offL, List.mem_singleton] at hd
      rw [hd]; exact e1
    · simp only [offL, offB, vB, List.length_cons, List.length_nil]
      rw [e3]
      omega
  | y :: ys, p :: ps, c, b, L, hy, hp, hl, hc, hb, hL => by
    have y1 := hy y List.mem_cons_self
    have p1 := hp p List.mem_cons_self
    have w0 : word 0 := by unfold word; omega
    obtain ⟨l1, l2, l3⟩ := lohi y1 hq w0 hc
    obtain ⟨e1, e2, e3⟩ := sb_spec p1 l1 hb
    simp only [List.length_cons, Nat.add_right_cancel_iff] at hl
    obtain ⟨g1, g2, g3, g4, g5⟩ := off_spec hq ys ps (hi y q 0 c) (bo p (lo y q 0 c) b) (okS p (lo y q 0 c) b :: wl y q 0 c :: yes :: L) (fun x hx => hy x (List.mem_cons_of_mem _ hx)) (fun x hx => hp x (List.mem_cons_of_mem _ hx)) hl l2 (by omega)
      (okCons (decide_eq_true ⟨p1.1, l1.1, l1.2, hb.1, hb.2⟩) (okCons (decide_eq_true ⟨y1, hq, w0, hc⟩) (okCons yes_ok hL)))
    refine ⟨fun d hd => ?_, by simp only [offL, List.length_cons, g2], g3, g4, ?_⟩
    · simp only [offL] at hd
      rcases List.mem_cons.1 hd with rfl | hd
      · exact e1
      · exact g1 d hd
    · simp only [offL, offB, vB, List.length_cons, Int.pow_succ]
      rw [g5, e3, Int.mul_comm (18446744073709551616 ^ ps.length) 18446744073709551616, Int.mul_assoc, Int.add_mul, Int.mul_assoc]
      generalize 18446744073709551616 ^ ps.length * offB q ys ps (hi y q 0 c) (bo p (lo y q 0 c) b) = t at *
      generalize vB ys * q = v at *
      generalize y * q = z at *
      omega
  | [], [], _, _, _, _, _, hl, _, _, _ => by simp at hl
  | _ :: _, [], _, _, _, _, _, hl, _, _, _ => by simp at hl
  | [], _ :: _ :: _, _, _, _, _, _, hl, _, _, _ => by simp at hl
theorem put_spec : ∀ (ys ps : List Int) (c : Int) (L : Log), words ys → words ps → ps.length = ys.length + 1 → (0 ≤ c ∧ c ≤ 1) → okLog L →
    words (putL_ ys ps c) ∧ (putL_ ys ps c).length = ps.length ∧ (putC ys ps c = 0 ∨ putC ys ps c = 1) ∧ okLog (putG ys ps c L) ∧
      vB (putL_ ys ps c) + 18446744073709551616 ^ ps.length * putC ys ps c = vB ps + vB ys + c
  | [], [p], c, L, _, hp, _, hc, hL => by
    have p1 := hp p List.mem_cons_self
    have w0 : word 0 := by unfold word; omega
    obtain ⟨e1, e2, e3⟩ := ad_spec p1 w0 hc
    refine ⟨fun d hd => ?_, rfl, e2, okCons (decide_eq_true ⟨p1.1, by omega, hc.1, hc.2⟩) (okCons no_ok hL), ?_⟩
    · simp only [putL_, List.mem_singleton] at hd
      rw [hd]; exact e1
    · simp only [putL_, putC, vB, List.length_cons, List.length_nil]
      omega
  | y :: ys, p :: ps, c, L, hy, hp, hl, hc, hL => by
    have y1 := hy y List.mem_cons_self
    have p1 := hp p List.mem_cons_self
    obtain ⟨e1, e2, e3⟩ := ad_spec p1 y1 hc
    simp only [List.length_cons, Nat.add_right_cancel_iff] at hl
    obtain ⟨g1, g2, g3, g4, g5⟩ := put_spec ys ps (ca p y c) (okA p y c :: yes :: L) (fun x hx => hy x (List.mem_cons_of_mem _ hx)) (fun x hx => hp x (List.mem_cons_of_mem _ hx)) hl (by omega)
      (okCons (decide_eq_true ⟨p1.1, y1.1, hc.1, hc.2⟩) (okCons yes_ok hL))
    refine ⟨fun d hd => ?_, by simp only [putL_, List.length_cons, g2], g3, g4, ?_⟩
    · simp only [putL_] at hd
      rcases List.mem_cons.1 hd with rfl | hd
      · exact e1
      · exact g1 d hd
    · simp only [putL_, putC, vB, List.length_cons, Int.pow_succ]
      rw [Int.mul_comm (18446744073709551616 ^ ps.length) 18446744073709551616, Int.mul_assoc]
      generalize 18446744073709551616 ^ ps.length * putC ys ps (ca p y c) = t at *
      omega
  | [], [], _, _, _, _, hl, _, _ => by simp at hl
  | _ :: _, [], _, _, _, _, hl, _, _ => by simp at hl
  | [], _ :: _ :: _, _, _, _, _, hl, _, _ => by simp at hl
end Go.Proofs.Ytbcpnpchioncbaa

/-
  A digit of the quotient: the right one comes, with at most two corrections, and the rest is left.
-/
namespace Go.Proofs.Ytbcpnpchioncbaa
open Go.KRun Go.Wd
set_option maxRecDepth 100000

theorem snoc_of {l : List Int} {k : Nat} (h : l.length = k + 1) : ∃ a x, l = a ++ [x] ∧ a.length = k := by
  have hne : l ≠ [] := fun e => by rw [e] at h; simp at h
  exact ⟨l.dropLast, l.getLast hne, (List.dropLast_concat_getLast hne).symm, by rw [List.length_dropLast]; omega⟩
theorem getD_snoc (a : List Int) (x : Int) (m : List Int) {k : Nat} (h : a.length = k) : (a ++ x :: m).getD k 0 = x := by
  subst h
  simp
theorem gs_spec {h l dt R d0 p0 : Int} (hh : word h) (hl : word l) (hd : 9223372036854775808 ≤ dt ∧ dt < 18446744073709551616) (hR : 0 < R) (hd0 : 0 ≤ d0 ∧ d0 < R) (hp0 : 0 ≤ p0 ∧ p0 < R)
    (hP : (h * 18446744073709551616 + l) * R + p0 < 18446744073709551616 * (dt * R + d0)) :
    word (gs h l dt) ∧ 0 ≤ ((h * 18446744073709551616 + l) * R + p0) / (dt * R + d0) ∧ ((h * 18446744073709551616 + l) * R + p0) / (dt * R + d0) ≤ gs h l dt ∧ gs h l dt ≤ ((h * 18446744073709551616 + l) * R + p0) / (dt * R + d0) + 2 := by
  unfold word at *
  have hN : 0 ≤ (h * 18446744073709551616 + l) * R := Int.mul_nonneg (by omega) (by omega)
  have hD : 0 < dt * R := Int.mul_pos (by omega) hR
  have hq0 : 0 ≤ ((h * 18446744073709551616 + l) * R + p0) / (dt * R + d0) := Int.ediv_nonneg (by omega) (by omega)
  obtain ⟨g1, g2⟩ := guess_low (B := 18446744073709551616) hR (by omega) hd0.1 hp0.2 hq0 hP
  have gu : gs h l dt ≤ (h * 18446744073709551616 + l) / dt := by
    unfold gs
    split
    · refine Int.le_ediv_of_mul_le (by omega) ?_
      omega
    · exact Int.le_refl _
  have g3 := guess_high (B := 18446744073709551616) hR (by omega) (by omega) hd0.2 hp0.1 hP hd0.1 gu
  have gl : ((h * 18446744073709551616 + l) * R + p0) / (dt * R + d0) ≤ gs h l dt := by
    unfold gs
    split
    · omega
    · exact g1
  refine ⟨⟨by omega, ?_⟩, hq0, gl, g3⟩
  unfold gs
  split
  · omega
  · exact Int.ediv_lt_of_lt_mul (by omega) (by omega)
theorem pow_posB (n : Nat) : (0 : Int) < 18446744073709551616 ^ n := Int.pow_pos (by omega)
theorem ne_ok {a : Int} (h : a = 1) : (a != 0, true).1 = (a != 0, true).2 := by subst h; rfl
theorem eq_ok {a : Int} (h : a = 0) : (a != 0, false).1 = (a != 0, false).2 := by subst h; rfl
theorem tk_spec {k : Nat} {ys ps : List Int} (ly : ys.length = k + 1) (lp : ps.length = k + 2) (wy : words ys) (wp : words ps) (top : 9223372036854775808 ≤ ys.getD k 0) (hlt : vB ps < 18446744073709551616 * vB ys) :
    ∃ c, c < 3 ∧ tkD (k + 1) c ys ps = vB ps / vB ys ∧ words (tkO (k + 1) c ys ps) ∧ (tkO (k + 1) c ys ps).length = k + 2 ∧ vB (tkO (k + 1) c ys ps) = vB ps % vB ys ∧ okLog (tkG (k + 1) c ys ps) := by
  obtain ⟨d0s, dt, ey, l0⟩ := snoc_of ly
  obtain ⟨p1s, h, ep, l1⟩ := snoc_of lp
  obtain ⟨p0s, l, ep1, l2⟩ := snoc_of l1
  have ep' : ps = p0s ++ l :: [h] := by rw [ep, ep1, List.append_assoc]; rfl
  have wdt : word dt := wy dt (by rw [ey]; simp)
  have wh : word h := wp h (by rw [ep]; simp)
  have wl' : word l := wp l (by rw [ep']; simp)
  have g1 : ys.getD k 0 = dt := by rw [ey]; exact getD_snoc d0s dt [] l0
  have g2 : ps.getD (k + 1) 0 = h := by rw [ep]; exact getD_snoc p1s h [] l1
  have g3 : ps.getD k 0 = l := by rw [ep']; exact getD_snoc p0s l [h] l2
  rw [g1] at top
  have eG : gsL (k + 1) ys ps = gs h l dt := by unfold gsL; rw [Nat.add_sub_cancel, g1, g2, g3]
  have eK : gokL (k + 1) ys ps = gok h l dt := by unfold gokL; rw [Nat.add_sub_cancel, g1, g2, g3]
  have hg : (gok h l dt).1 = (gok h l dt).2 := decide_eq_true ⟨wh, wl', top, wdt.2⟩
  have bd0 := vB_bd d0s (fun x hx => wy x (by rw [ey]; exact List.mem_append_left _ hx))
  have bp0 := vB_bd p0s (fun x hx => wp x (by rw [ep']; exact List.mem_append_left _ hx))
  have vy : vB ys = dt * 18446744073709551616 ^ k + vB d0s := by
    rw [ey, vB_append, l0]
    simp only [vB]
    rw [Int.mul_zero, Int.add_zero, Int.mul_comm dt]
    omega
  have vp : vB ps = (h * 18446744073709551616 + l) * 18446744073709551616 ^ k + vB p0s := by
    rw [ep', vB_append, l2]
    simp only [vB]
    rw [Int.mul_zero, Int.add_zero, Int.mul_comm _ (18446744073709551616 ^ k), Int.mul_comm h, Int.add_comm l]
    omega
  rw [l0] at bd0
  rw [l2] at bp0
  obtain ⟨wG, q0, qG, Gq⟩ := gs_spec wh wl' ⟨top, wdt.2⟩ (pow_posB k) bd0 bp0 (by rw [← vy, ← vp]; exact hlt)
  rw [← vy, ← vp] at q0 qG Gq
  rw [← eG] at wG qG Gq
  rw [← eK] at hg
  have by_ := vB_bd ys wy
  have bp := vB_bd ps wp
  have hyp : 0 < vB ys := by
    rw [vy]
    have := Int.mul_pos (show 0 < dt by omega) (pow_posB k)
    omega
  have hLs : okLog [gokL (k + 1) ys ps, yes] := okCons hg (okL1 yes_ok)
  have w0 : word 0 := by unfold word; omega
  obtain ⟨a1, a2, a3, a4, a5⟩ := off_spec wG ys ps 0 0 [gokL (k + 1) ys ps, yes] wy wp (by omega) w0 (by omega) hLs
  have b0 := vB_bd _ a1
  have dm := Int.mul_ediv_add_emod (vB ps) (vB ys)
  have r0 := Int.emod_nonneg (vB ps) (show vB ys ≠ 0 by omega)
  have r1 := Int.emod_lt_of_pos (vB ps) hyp
  have kK : vB ys < 18446744073709551616 ^ ps.length := by
    have : (18446744073709551616 : Int) ^ ps.length = 18446744073709551616 ^ ys.length * 18446744073709551616 := by rw [lp, ly, ← Int.pow_succ]
    rw [this]
    have := pow_posB ys.length
    omega
  rw [a2] at b0
  generalize hK : (18446744073709551616 : Int) ^ ps.length = K at *
  generalize hq : vB ps / vB ys = q at *
  generalize hr : vB ps % vB ys = r at *
  have hj : gsL (k + 1) ys ps = q ∨ gsL (k + 1) ys ps = q + 1 ∨ gsL (k + 1) ys ps = q + 2 := by omega
  rcases hj with hj | hj | hj
  · have e : vB (offL (gsL (k + 1) ys ps) ys ps 0 0) = r + K * offB (gsL (k + 1) ys ps) ys ps 0 0 := by rw [a5, hj]; omega
    have ob : offB (gsL (k + 1) ys ps) ys ps 0 0 = 0 := by
      rcases a3 with h | h
      · exact h
      · rw [h] at e; omega
    refine ⟨0, by omega, hj, a1, by show (ps0 (k + 1) ys ps).length = k + 2; unfold ps0; omega, ?_, ?_⟩
    · show vB (ps0 (k + 1) ys ps) = r
      unfold ps0
      rw [e, ob]; omega
    · exact okCons (eq_ok ob) a4
  · have e : vB (offL (gsL (k + 1) ys ps) ys ps 0 0) = r - vB ys + K * offB (gsL (k + 1) ys ps) ys ps 0 0 := by rw [a5, hj, Int.mul_add, Int.mul_one]; omega
    have ob : offB (gsL (k + 1) ys ps) ys ps 0 0 = 1 := by
      rcases a3 with h | h
      · rw [h] at e; omega
      · exact h
    rw [ob] at e
    obtain ⟨c1, c2, c3, c4, c5⟩ := put_spec ys (ps0 (k + 1) ys ps) 0 ((offB (gsL (k + 1) ys ps) ys ps 0 0 != 0, true) :: offG (gsL (k + 1) ys ps) ys ps 0 0 [gokL (k + 1) ys ps, yes]) wy a1 (by unfold ps0; omega) (by omega) (okCons (ne_ok ob) a4)
    have d0 := vB_bd _ c1
    have lk : (ps0 (k + 1) ys ps).length = ps.length := a2
    rw [c2, lk, hK] at d0
    rw [lk, hK, show vB (ps0 (k + 1) ys ps) = r - vB ys + K * 1 from e] at c5
    have oc : putC ys (ps0 (k + 1) ys ps) 0 = 1 := by
      rcases c3 with h | h
      · rw [h] at c5; omega
      · exact h
    refine ⟨1, by omega, ?_, c1, by show (ps1 (k + 1) ys ps).length = k + 2; unfold ps1; omega, ?_, okCons (ne_ok oc) c4⟩
    · show IntKind.u64.wrap (gsL (k + 1) ys ps - 1) = q
      rw [wrap_u64' (by omega) (by unfold word at wG; omega)]; omega
    · show vB (ps1 (k + 1) ys ps) = r
      unfold ps1
      rw [oc] at c5; omega
  · have e : vB (offL (gsL (k + 1) ys ps) ys ps 0 0) = r - 2 * vB ys + K * offB (gsL (k + 1) ys ps) ys ps 0 0 := by rw [a5, hj, Int.mul_add]; omega
    have ob : offB (gsL (k + 1) ys ps) ys ps 0 0 = 1 := by
      rcases a3 with h | h
      · rw [h] at e; omega
      · exact h
    rw [ob] at e
    obtain ⟨c1, c2, c3, c4, c5⟩ := put_spec ys (ps0 (k + 1) ys ps) 0 ((offB (gsL (k + 1) ys ps) ys ps 0 0 != 0, true) :: offG (gsL (k + 1) ys ps) ys ps 0 0 [gokL (k + 1) ys ps, yes]) wy a1 (by unfold ps0; omega) (by omega) (okCons (ne_ok ob) a4)
    have d0 := vB_bd _ c1
    have lk : (ps0 (k + 1) ys ps).length = ps.length := a2
    rw [c2, lk, hK] at d0
    rw [lk, hK, show vB (ps0 (k + 1) ys ps) = r - 2 * vB ys + K * 1 from e] at c5
    have oc : putC ys (ps0 (k + 1) ys ps) 0 = 0 := by
      rcases c3 with h | h
      · exact h
      · rw [h] at c5; omega
    rw [oc] at c5
    obtain ⟨x1, x2, x3, x4, x5⟩ := put_spec ys (ps1 (k + 1) ys ps) 0 ((putC ys (ps0 (k + 1) ys ps) 0 != 0, false) :: putG ys (ps0 (k + 1) ys ps) 0 ((offB (gsL (k + 1) ys ps) ys ps 0 0 != 0, true) :: offG (gsL (k + 1) ys ps) ys ps 0 0 [gokL (k + 1) ys ps, yes])) wy c1 (by unfold ps1; omega) (by omega) (okCons (eq_ok oc) c4)
    have y0 := vB_bd _ x1
    have lk1 : (ps1 (k + 1) ys ps).length = ps.length := by unfold ps1; omega
    rw [x2, lk1, hK] at y0
    have e1 : vB (ps1 (k + 1) ys ps) = r - vB ys + K := by unfold ps1; omega
    rw [lk1, hK, e1] at x5
    have od : putC ys (ps1 (k + 1) ys ps) 0 = 1 := by
      rcases x3 with h | h
      · rw [h] at x5; omega
      · exact h
    refine ⟨2, by omega, ?_, x1, by show (ps2 (k + 1) ys ps).length = k + 2; unfold ps2; omega, ?_, okCons (ne_ok od) x4⟩
    · show IntKind.u64.wrap (IntKind.u64.wrap (gsL (k + 1) ys ps - 1) - 1) = q
      have : IntKind.u64.wrap (gsL (k + 1) ys ps - 1) = q + 1 := by rw [wrap_u64' (by omega) (by unfold word at wG; omega)]; omega
      rw [this, wrap_u64' (by omega) (by unfold word at wG; omega)]; omega
    · show vB (ps2 (k + 1) ys ps) = r
      unfold ps2
      rw [od] at x5; omega
end Go.Proofs.Ytbcpnpchioncbaa
