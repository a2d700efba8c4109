/-
  Products of the seat's program, III: what wide.Mul answers is the product.
-/
import Derived.Test.YtnolcojnodoecaaG23
import Derived.Test.YtnolcojnodoecaaG24
namespace Go.Proofs.Ytnolcojnodoecaa
open Go.KRun Go.Wd
set_option maxRecDepth 100000

def vB : List Int → Int
  | [] => 0
  | d :: ds => d + 18446744073709551616 * vB ds
def words (l : List Int) : Prop := ∀ d ∈ l, word d
theorem lohi {x y z c : Int} (hx : word x) (hy : word y) (hz : word z) (hc : word c) : word (lo x y z c) ∧ word (hi x y z c) ∧ lo x y z c + 18446744073709551616 * hi x y z c = x * y + z + c := by
  have bd := ma_arith hx hy
  unfold lo hi word at *
  generalize x * y = p at *
  omega
theorem row_spec {x : Int} (hx : word x) : ∀ (ys zs : List Int) (c j : Int) (L : Log), words ys → words zs → word c → ys.length = zs.length → 0 ≤ j → j + ys.length ≤ 4 → okLog L →
    words (rowF x ys zs c) ∧ (rowF x ys zs c).length = ys.length + 1 ∧ vB (rowF x ys zs c) = vB zs + x * vB ys + c ∧ okLog (rowG x ys zs c j L)
  | [], [], c, j, L, _, _, hc, _, _, _, hL => by
    refine ⟨fun d hd => ?_, rfl, by simp [rowF, vB], okCons (by rfl) hL⟩
    simp only [rowF, List.mem_singleton] at hd
    rw [hd]; exact hc
  | y :: ys, z :: zs, c, j, L, hy, hz, hc, hl, h0, hj, hL => by
    have y1 := hy y List.mem_cons_self
    have z1 := hz z List.mem_cons_self
    obtain ⟨e1, e2, e3⟩ := lohi hx y1 z1 hc
    simp only [List.length_cons] at hl hj
    obtain ⟨g1, g2, g3, g4⟩ := row_spec hx ys zs (hi x y z c) (j + 1) (wl x y z c :: jl j :: L) (fun d hd => hy d (List.mem_cons_of_mem _ hd)) (fun d hd => hz d (List.mem_cons_of_mem _ hd)) e2 (by omega) (by omega) (by omega)
      (okCons (decide_eq_true ⟨hx, y1, z1, hc⟩) (okCons (decide_eq_true (by omega : j < 4)) hL))
    refine ⟨fun d hd => ?_, by simp only [rowF, List.length_cons, g2], ?_, g4⟩
    · simp only [rowF] at hd
      rcases List.mem_cons.1 hd with rfl | hd
      · exact e1
      · exact g1 d hd
    · simp only [rowF, vB]
      rw [g3]
      have : x * (y + 18446744073709551616 * vB ys) = x * y + 18446744073709551616 * (x * vB ys) := by rw [Int.mul_add, Int.mul_left_comm]
      rw [this]
      generalize x * vB ys = q at *
      generalize x * y = p at *
      omega
  | [], _ :: _, _, _, _, _, _, _, hl, _, _, _ => by simp at hl
  | _ :: _, [], _, _, _, _, _, _, hl, _, _, _ => by simp at hl
theorem vB_snoc0 : ∀ l : List Int, vB (l ++ [0]) = vB l
  | [] => rfl
  | d :: ds => by simp only [List.cons_append, vB, vB_snoc0 ds]
theorem rowDm_spec {x i : Int} (hx : word x) (hi : i < 4) {ys zs : List Int} (hy : words ys) (hz : words zs) (ly : ys.length = 4) (lz : zs.length = 4) {L : Log} (hL : okLog L) :
    ∃ h t, rowDm (x == 0) x ys zs = h :: t ∧ word h ∧ words t ∧ t.length = 4 ∧ h + 18446744073709551616 * vB t = vB zs + x * vB ys ∧ okLog (rowE (x == 0) i x ys zs L) := by
  have key : words (rowDm (x == 0) x ys zs) ∧ (rowDm (x == 0) x ys zs).length = 5 ∧ vB (rowDm (x == 0) x ys zs) = vB zs + x * vB ys ∧ okLog (rowE (x == 0) i x ys zs L) := by
    have ji : (jl i).1 = (jl i).2 := decide_eq_true hi
    by_cases h : x = 0
    · have hb : (x == 0) = true := beq_iff_eq.2 h
      rw [hb]
      refine ⟨fun d hd => ?_, by simp [rowDm, lz], ?_, okCons hb (okCons ji hL)⟩
      · simp only [rowDm] at hd
        rcases List.mem_append.1 hd with hd | hd
        · exact hz d hd
        · rw [List.mem_singleton.1 hd]; unfold word; omega
      · simp only [rowDm, vB_snoc0]
        rw [h]; omega
    · have hb : (x == 0) = false := beq_eq_false_iff_ne.2 h
      rw [hb]
      obtain ⟨g1, g2, g3, g4⟩ := row_spec hx ys zs 0 0 ((x == 0, false) :: jl i :: L) hy hz (by unfold word; omega) (by omega) (by omega) (by omega) (okCons hb (okCons ji hL))
      exact ⟨g1, by simp only [rowDm]; omega, by simp only [rowDm]; omega, g4⟩
  obtain ⟨k1, k2, k3, k4⟩ := key
  match hr : rowDm (x == 0) x ys zs, k1, k2, k3 with
  | h :: t, k1, k2, k3 =>
    exact ⟨h, t, rfl, k1 h List.mem_cons_self, fun d hd => k1 d (List.mem_cons_of_mem _ hd), by simpa using k2, k3, k4⟩
def mulV4 (x y : W4) : Value := .tuple #[vW (W4.of (x.val * y.val)), vW (W4.of (x.val * y.val / 115792089237316195423570985008687907853269984665640564039457584007913129639936))]
theorem ysOf_val (y : W4) : vB (ysOf y) = y.val := by unfold ysOf W4.val; simp only [vB]; omega
theorem mul_calls (x y : W4) (hx : x.ok) (hy : y.ok) (w : World) : Calls Try.prog 63 #[vW x, vW y] w fun e w' => e = .returned (mulV4 x y) ∧ Tidy w w' := by
  obtain ⟨x0, x1, x2, x3⟩ := hx
  have wy : words (ysOf y) := fun d hd => by
    obtain ⟨y0, y1, y2, y3⟩ := hy
    unfold ysOf at hd
    simp only [List.mem_cons, List.not_mem_nil, or_false] at hd
    rcases hd with rfl | rfl | rfl | rfl
    · exact y0
    · exact y1
    · exact y2
    · exact y3
  have wz : words [0, 0, 0, 0] := fun d hd => by
    simp only [List.mem_cons, List.not_mem_nil, or_false, or_self] at hd
    rw [hd]; unfold word; omega
  obtain ⟨h0, t0, e0, a0, b0, l0, v0, g0⟩ := rowDm_spec (x := x.a) (i := 0) x0 (by omega) wy wz rfl rfl okNil
  obtain ⟨h1, t1, e1, a1, b1, l1, v1, g1⟩ := rowDm_spec (x := x.b) (i := 1) x1 (by omega) wy b0 rfl l0 g0
  obtain ⟨h2, t2, e2, a2, b2, l2, v2, g2⟩ := rowDm_spec (x := x.c) (i := 2) x2 (by omega) wy b1 rfl l1 g1
  obtain ⟨h3, t3, e3, a3, b3, l3, v3, g3⟩ := rowDm_spec (x := x.d) (i := 3) x3 (by omega) wy b2 rfl l2 g2
  have E0 : r0 (x.a == 0) x y = h0 :: t0 := e0
  have E1 : r1 (x.a == 0) (x.b == 0) x y = h1 :: t1 := by unfold r1; rw [E0]; exact e1
  have E2 : r2 (x.a == 0) (x.b == 0) (x.c == 0) x y = h2 :: t2 := by unfold r2; rw [E1]; exact e2
  have E3 : r3 (x.a == 0) (x.b == 0) (x.c == 0) (x.d == 0) x y = h3 :: t3 := by unfold r3; rw [E2]; exact e3
  have h := fits_calls (tabY_ok conMA_ok) (mul_fits x y (x.a == 0) (x.b == 0) (x.c == 0) (x.d == 0)) (by
    unfold mulLog
    rw [E0, E1, E2]
    exact okCons (by rfl) g3) (by rfl) (by rfl) w
  have hv : mulV (x.a == 0) (x.b == 0) (x.c == 0) (x.d == 0) x y = mulV4 x y := by
    unfold mulV mulV4
    rw [E0, E1, E2, E3]
    match t3, l3, b3, v3 with
    | [q0, q1, q2, q3], _, b3, v3 =>
      simp only [hd, List.headD_cons, List.tail_cons, w4T, List.getD_cons_zero, List.getD_cons_succ]
      have ok1 : (⟨h0, h1, h2, h3⟩ : W4).ok := ⟨a0, a1, a2, a3⟩
      have ok2 : (⟨q0, q1, q2, q3⟩ : W4).ok := ⟨b3 q0 (by simp), b3 q1 (by simp), b3 q2 (by simp), b3 q3 (by simp)⟩
      have key : x.val * y.val = (⟨h0, h1, h2, h3⟩ : W4).val + 115792089237316195423570985008687907853269984665640564039457584007913129639936 * (⟨q0, q1, q2, q3⟩ : W4).val := by
        rw [ysOf_val] at v0 v1 v2 v3
        rw [val_mul x y.val]
        generalize x.a * y.val = p0 at *
        generalize x.b * y.val = p1 at *
        generalize x.c * y.val = p2 at *
        generalize x.d * y.val = p3 at *
        simp only [vB] at v0 v1 v2 v3
        unfold W4.val
        dsimp only
        omega
      have bd1 := W4.val_bd ok1
      have eL : W4.of (x.val * y.val) = ⟨h0, h1, h2, h3⟩ := W4.of_eq ok1 key
      have eH : x.val * y.val / 115792089237316195423570985008687907853269984665640564039457584007913129639936 = (⟨q0, q1, q2, q3⟩ : W4).val := by rw [key]; omega
      rw [eL, eH, W4.of_val ok2]
  rw [hv] at h
  exact h
end Go.Proofs.Ytnolcojnodoecaa

/-
  The numbers behind a digit of the quotient: what is taken off and put back, and that the right digit comes.
-/
namespace Go.Proofs.Ytnolcojnodoecaa
open Go.KRun Go.Wd
set_option maxRecDepth 100000

theorem vB_append : ∀ (l m : List Int), vB (l ++ m) = vB l + 18446744073709551616 ^ l.length * vB m
  | [], m => by simp [vB]
  | d :: ds, m => by
    simp only [List.cons_append, vB, List.length_cons, Int.pow_succ]
    rw [vB_append ds m, Int.mul_add, Int.mul_comm (18446744073709551616 ^ ds.length) 18446744073709551616, Int.mul_assoc]
    omega
theorem vB_bd : ∀ (l : List Int), words l → 0 ≤ vB l ∧ vB l < 18446744073709551616 ^ l.length
  | [], _ => by simp [vB]
  | d :: ds, h => by
    have h1 := vB_bd ds fun x hx => h x (List.mem_cons_of_mem _ hx)
    have h2 := h d List.mem_cons_self
    unfold word at h2
    simp only [vB, List.length_cons, Int.pow_succ]
    rw [Int.mul_comm (18446744073709551616 ^ ds.length)]
    omega
theorem sb_spec {x y c : Int} (hx : word x) (hy : word y) (hc : 0 ≤ c ∧ c ≤ 1) : word (Go.Wd.sb x y c) ∧ (bo x y c = 0 ∨ bo x y c = 1) ∧ Go.Wd.sb x y c = x - y - c + 18446744073709551616 * bo x y c := by
  unfold word Go.Wd.sb at *
  have := bo_spec x y c
  generalize bo x y c = k at *
  omega
theorem ad_spec {x y c : Int} (hx : word x) (hy : word y) (hc : 0 ≤ c ∧ c ≤ 1) : word (ad x y c) ∧ (ca x y c = 0 ∨ ca x y c = 1) ∧ ad x y c + 18446744073709551616 * ca x y c = x + y + c := by
  unfold word ad ca at *
  omega
theorem off_spec {q : Int} (hq : word q) : ∀ (ys ps : List Int) (c b : Int) (L : Log), words ys → words ps → ps.length = ys.length + 1 → word c → (0 ≤ b ∧ b ≤ 1) → okLog L →
    words (offL q ys ps c b) ∧ (offL q ys ps c b).length = ps.length ∧ (offB q ys ps c b = 0 ∨ offB q ys ps c b = 1) ∧ okLog (offG q ys ps c b L) ∧
      vB (offL q ys ps c b) = vB ps - vB ys * q - c - b + 18446744073709551616 ^ ps.length * offB q ys ps c b
  | [], [p], c, b, L, _, hp, _, hc, hb, hL => by
    have p1 := hp p List.mem_cons_self
    obtain ⟨e1, e2, e3⟩ := sb_spec p1 hc hb
    refine ⟨fun d hd => ?_, rfl, e2, okCons (decide_eq_true ⟨p1.1, hc.1, hc.2, hb.1, hb.2⟩) (okCons no_ok hL), ?_⟩
    · simp only [offL, List.mem_singleton] at hd
      rw [hd]; exact e1
    · simp only [offL, offB, vB, List.length_cons, List.length_nil]
      rw [e3]
      omega
  | y :: ys, p :: ps, c, b, L, hy, hp, hl, hc, hb, hL => by
    have y1 := hy y List.mem_cons_self
    have p1 := hp p List.mem_cons_self
    have w0 : word 0 := by unfold word; omega
    obtain ⟨l1, l2, l3⟩ := lohi y1 hq w0 hc
    obtain ⟨e1, e2, e3⟩ := sb_spec p1 l1 hb
    simp only [List.length_cons, Nat.add_right_cancel_iff] at hl
    obtain ⟨g1, g2, g3, g4, g5⟩ := off_spec hq ys ps (hi y q 0 c) (bo p (lo y q 0 c) b) (okS p (lo y q 0 c) b :: wl y q 0 c :: yes :: L) (fun x hx => hy x (List.mem_cons_of_mem _ hx)) (fun x hx => hp x (List.mem_cons_of_mem _ hx)) hl l2 (by omega)
      (okCons (decide_eq_true ⟨p1.1, l1.1, l1.2, hb.1, hb.2⟩) (okCons (decide_eq_true ⟨y1, hq, w0, hc⟩) (okCons yes_ok hL)))
    refine ⟨fun d hd => ?_, by simp only [offL, List.length_cons, g2], g3, g4, ?_⟩
    · simp only [offL] at hd
      rcases List.mem_cons.1 hd with rfl | hd
      · exact e1
      · exact g1 d hd
    · simp only [offL, offB, vB, List.length_cons, Int.pow_succ]
      rw [g5, e3, Int.mul_comm (18446744073709551616 ^ ps.length) 18446744073709551616, Int.mul_assoc, Int.add_mul, Int.mul_assoc]
      generalize 18446744073709551616 ^ ps.length * offB q ys ps (hi y q 0 c) (bo p (lo y q 0 c) b) = t at *
      generalize vB ys * q = v at *
      generalize y * q = z at *
      omega
  | [], [], _, _, _, _, _, hl, _, _, _ => by simp at hl
  | _ :: _, [], _, _, _, _, _, hl, _, _, _ => by simp at hl
  | [], _ :: _ :: _, _, _, _, _, _, hl, _, _, _ => by simp at hl
theorem put_spec : ∀ (ys ps : List Int) (c : Int) (L : Log), words ys → words ps → ps.length = ys.length + 1 → (0 ≤ c ∧ c ≤ 1) → okLog L →
    words (putL_ ys ps c) ∧ (putL_ ys ps c).length = ps.length ∧ (putC ys ps c = 0 ∨ putC ys ps c = 1) ∧ okLog (putG ys ps c L) ∧
      vB (putL_ ys ps c) + 18446744073709551616 ^ ps.length * putC ys ps c = vB ps + vB ys + c
  | [], [p], c, L, _, hp, _, hc, hL => by
    have p1 := hp p List.mem_cons_self
    have w0 : word 0 := by unfold word; omega
    obtain ⟨e1, e2, e3⟩ := ad_spec p1 w0 hc
    refine ⟨fun d hd => ?_, rfl, e2, okCons (decide_eq_true ⟨p1.1, by omega, hc.1, hc.2⟩) (okCons no_ok hL), ?_⟩
    · simp only [putL_, List.mem_singleton] at hd
      rw [hd]; exact e1
    · simp only [putL_, putC, vB, List.length_cons, List.length_nil]
      omega
  | y :: ys, p :: ps, c, L, hy, hp, hl, hc, hL => by
    have y1 := hy y List.mem_cons_self
    have p1 := hp p List.mem_cons_self
    obtain ⟨e1, e2, e3⟩ := ad_spec p1 y1 hc
    simp only [List.length_cons, Nat.add_right_cancel_iff] at hl
    obtain ⟨g1, g2, g3, g4, g5⟩ := put_spec ys ps (ca p y c) (okA p y c :: yes :: L) (fun x hx => hy x (List.mem_cons_of_mem _ hx)) (fun x hx => hp x (List.mem_cons_of_mem _ hx)) hl (by omega)
      (okCons (decide_eq_true ⟨p1.1, y1.1, hc.1, hc.2⟩) (okCons yes_ok hL))
    refine ⟨fun d hd => ?_, by simp only [putL_, List.length_cons, g2], g3, g4, ?_⟩
    · simp only [putL_] at hd
      rcases List.mem_cons.1 hd with rfl | hd
      · exact e1
      · exact g1 d hd
    · simp only [putL_, putC, vB, List.length_cons, Int.pow_succ]
      rw [Int.mul_comm (18446744073709551616 ^ ps.length) 18446744073709551616, Int.mul_assoc]
      generalize 18446744073709551616 ^ ps.length * putC ys ps (ca p y c) = t at *
      omega
  | [], [], _, _, _, _, hl, _, _ => by simp at hl
  | _ :: _, [], _, _, _, _, hl, _, _ => by simp at hl
  | [], _ :: _ :: _, _, _, _, _, hl, _, _ => by simp at hl
end Go.Proofs.Ytnolcojnodoecaa
