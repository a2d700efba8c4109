/-
  Con5, Con6, NumPr, PrA, PrB, PrC, GnB
-/
import Derived.Test.YtekebccjflilnaaG13
namespace Go.Proofs.Ytekebccjflilnaa
open Go.KRun Go.Wd
set_option maxRecDepth 100000
def u1m : Value → Option Int
  | .int .u64 n => some n
  | _ => none
theorem u1m_spec {v : Value} {n : Int} (h : u1m v = some n) : v = u_ n := by
  unfold u1m at h
  split at h
  · cases h; rfl
  · cases h
def gMul : Ans := fun vals s =>
  match vals with
  | [x, y] =>
    match u1m x, u1m y with
    | some a, some b => some (.tuple #[u_ (a * b / 18446744073709551616), u_ (a * b % 18446744073709551616)], s, [(decide (word a ∧ word b), true)])
    | _, _ => none
  | _ => none
theorem gMul_ok : AnsOk 107 gMul := by
  intro vals s v s' lg h hl w
  unfold gMul at h
  split at h
  · split at h
    · rename_i a b ha hb
      cases h
      have h1 := hl _ (List.mem_singleton.2 rfl)
      simp only [decide_eq_true_eq] at h1
      rw [u1m_spec ha, u1m_spec hb]
      exact mul64_calls a b h1.1 h1.2 w
    · cases h
  · cases h
def conM : Con := alt 107 gMul conN
theorem conM_ok : ConOk conM := alt_ok Try.func107 rfl gMul_ok conN_ok
def pL (x y m : Int) : Int := Wd.ad (x * y % 18446744073709551616) m 0
def oA (x y c : Int) : Bool × Bool := (decide (0 ≤ x ∧ 0 ≤ y ∧ 0 ≤ c ∧ c ≤ 1), true)
theorem ma_fits (x y m c : Int) : Fits (reckon (tabOf Try.prog extY conM true) 3000 103 [u_ x, u_ y, u_ m, u_ c] [])
    (.tuple #[u_ (Wd.ad (pL x y m) c 0), u_ (IntKind.u64.wrap (IntKind.u64.wrap (x * y / 18446744073709551616 + ca (x * y % 18446744073709551616) m 0) + ca (pL x y m) c 0))])
    [oA (pL x y m) c 0, oA (x * y % 18446744073709551616) m 0, (decide (word x ∧ word y), true)] := ⟨by kernel_rfl, by kernel_rfl, by kernel_rfl, by kernel_rfl⟩
theorem ma_arith {x y : Int} (hx : word x) (hy : word y) : 0 ≤ x * y ∧ x * y ≤ 340282366920938463426481119284349108225 := by
  refine ⟨Int.mul_nonneg hx.1 hy.1, ?_⟩
  have := Int.mul_le_mul (show x ≤ 18446744073709551615 by omega) (show y ≤ 18446744073709551615 by omega) hy.1 (by omega)
  omega
theorem ma_calls (x y m c : Int) (hx : word x) (hy : word y) (hm : word m) (hc : word c) (w : World) : Calls Try.prog 103 #[u_ x, u_ y, u_ m, u_ c] w fun e w' =>
    e = .returned (.tuple #[u_ ((x * y + m + c) % 18446744073709551616), u_ ((x * y + m + c) / 18446744073709551616)]) ∧ Tidy w w' := by
  have bd := ma_arith hx hy
  have h := fits_calls (tabY_ok conM_ok) (ma_fits x y m c) (okCons (decide_eq_true (by unfold pL Wd.ad; omega)) (okCons (decide_eq_true (by omega)) (okL1 (decide_eq_true ⟨hx, hy⟩)))) (by rfl) (by rfl) w
  have e1 : Wd.ad (pL x y m) c 0 = (x * y + m + c) % 18446744073709551616 := by unfold pL Wd.ad; omega
  have e2 : IntKind.u64.wrap (IntKind.u64.wrap (x * y / 18446744073709551616 + ca (x * y % 18446744073709551616) m 0) + ca (pL x y m) c 0) = (x * y + m + c) / 18446744073709551616 := by
    unfold pL ca Wd.ad
    rw [wrap_u64, wrap_u64]
    omega
  rw [e1, e2] at h
  exact h
def gMA : Ans := fun vals s =>
  match vals with
  | [x, y, m, c] =>
    match u1m x, u1m y, u1m m, u1m c with
    | some x, some y, some m, some c => some (.tuple #[u_ ((x * y + m + c) % 18446744073709551616), u_ ((x * y + m + c) / 18446744073709551616)], s, [(decide (word x ∧ word y ∧ word m ∧ word c), true)])
    | _, _, _, _ => none
  | _ => none
theorem gMA_ok : AnsOk 103 gMA := by
  intro vals s v s' lg h hl w
  unfold gMA at h
  split at h
  · split at h
    · rename_i x y m c hx hy hm hc
      cases h
      have h1 := hl _ (List.mem_singleton.2 rfl)
      simp only [decide_eq_true_eq] at h1
      rw [u1m_spec hx, u1m_spec hy, u1m_spec hm, u1m_spec hc]
      exact ma_calls _ _ _ _ h1.1 h1.2.1 h1.2.2.1 h1.2.2.2 w
    · cases h
  · cases h
def conMA : Con := alt 103 gMA conN
theorem conMA_ok : ConOk conMA := alt_ok Try.func103 rfl gMA_ok conN_ok
/-! ### a row of the product, and the product -/
def lo (x y z c : Int) : Int := (x * y + z + c) % 18446744073709551616
def hi (x y z c : Int) : Int := (x * y + z + c) / 18446744073709551616
def rowF (x : Int) : List Int → List Int → Int → List Int
  | y :: ys, z :: zs, c => lo x y z c :: rowF x ys zs (hi x y z c)
  | _, _, c => [c]
def jl (j : Int) : Bool × Bool := (decide (j < 4), true)
def je : Bool × Bool := (decide ((4 : Int) < 4), false)
def wl (x y z c : Int) : Bool × Bool := (decide (word x ∧ word y ∧ word z ∧ word c), true)
def rowG (x : Int) : List Int → List Int → Int → Int → Log → Log
  | y :: ys, z :: zs, c, j, L => rowG x ys zs (hi x y z c) (j + 1) (wl x y z c :: jl j :: L)
  | _, _, _, _, L => je :: L
def rowDm (d : Bool) (x : Int) (ys zs : List Int) : List Int :=
  match d with
  | true => zs ++ [0]
  | false => rowF x ys zs 0
def rowE (d : Bool) (i x : Int) (ys zs : List Int) (L : Log) : Log :=
  match d with
  | true => (x == 0, true) :: jl i :: L
  | false => rowG x ys zs 0 0 ((x == 0, false) :: jl i :: L)
def ysOf (y : W4) : List Int := [y.a, y.b, y.c, y.d]
def r0 (d : Bool) (x y : W4) : List Int := rowDm d x.a (ysOf y) [0, 0, 0, 0]
def r1 (d e : Bool) (x y : W4) : List Int := rowDm e x.b (ysOf y) (r0 d x y).tail
def r2 (d e f : Bool) (x y : W4) : List Int := rowDm f x.c (ysOf y) (r1 d e x y).tail
def r3 (d e f g : Bool) (x y : W4) : List Int := rowDm g x.d (ysOf y) (r2 d e f x y).tail
def hd (l : List Int) : Int := l.headD 0
def w4T (l : List Int) : W4 := ⟨l.getD 0 0, l.getD 1 0, l.getD 2 0, l.getD 3 0⟩
def mulLog (d e f g : Bool) (x y : W4) : Log := je :: rowE g 3 x.d (ysOf y) (r2 d e f x y).tail (rowE f 2 x.c (ysOf y) (r1 d e x y).tail (rowE e 1 x.b (ysOf y) (r0 d x y).tail (rowE d 0 x.a (ysOf y) [0, 0, 0, 0] [])))
def scr (d : Bool) (s : List Dec) : List Dec :=
  match d with
  | true => cmp true :: cmp true :: s
  | false => cmp true :: cmp false :: cmp true :: cmp true :: cmp true :: cmp true :: cmp false :: s
def mulV (d e f g : Bool) (x y : W4) : Value := .tuple #[vW ⟨hd (r0 d x y), hd (r1 d e x y), hd (r2 d e f x y), hd (r3 d e f g x y)⟩, vW (w4T (r3 d e f g x y).tail)]
theorem mul_fits (x y : W4) (d e f g : Bool) : Fits (reckon (tabOf Try.prog extY conMA true) 3000 83 [vW x, vW y] (scr d (scr e (scr f (scr g [cmp false]))))) (mulV d e f g x y) (mulLog d e f g x y) := by
  cases d <;> cases e <;> cases f <;> cases g <;> exact ⟨by kernel_rfl, by kernel_rfl, by kernel_rfl, by kernel_rfl⟩
def vB : List Int → Int
  | [] => 0
  | d :: ds => d + 18446744073709551616 * vB ds
def words (l : List Int) : Prop := ∀ d ∈ l, word d
theorem lohi {x y z c : Int} (hx : word x) (hy : word y) (hz : word z) (hc : word c) : word (lo x y z c) ∧ word (hi x y z c) ∧ lo x y z c + 18446744073709551616 * hi x y z c = x * y + z + c := by
  have bd := ma_arith hx hy
  unfold lo hi word at *
  generalize x * y = p at *
  omega
theorem row_spec {x : Int} (hx : word x) : ∀ (ys zs : List Int) (c j : Int) (L : Log), words ys → words zs → word c → ys.length = zs.length → 0 ≤ j → j + ys.length ≤ 4 → okLog L →
    words (rowF x ys zs c) ∧ (rowF x ys zs c).length = ys.length + 1 ∧ vB (rowF x ys zs c) = vB zs + x * vB ys + c ∧ okLog (rowG x ys zs c j L)
  | [], [], c, j, L, _, _, hc, _, _, _, hL => by
    refine ⟨fun d hd => ?_, rfl, by simp [rowF, vB], okCons (by rfl) hL⟩
    simp only [rowF, List.mem_singleton] at hd
    rw [hd]; exact hc
  | y :: ys, z :: zs, c, j, L, hy, hz, hc, hl, h0, hj, hL => by
    have y1 := hy y List.mem_cons_self
    have z1 := hz z List.mem_cons_self
    obtain ⟨e1, e2, e3⟩ := lohi hx y1 z1 hc
    simp only [List.length_cons] at hl hj
    obtain ⟨g1, g2, g3, g4⟩ := row_spec hx ys zs (hi x y z c) (j + 1) (wl x y z c :: jl j :: L) (fun d hd => hy d (List.mem_cons_of_mem _ hd)) (fun d hd => hz d (List.mem_cons_of_mem _ hd)) e2 (by omega) (by omega) (by omega)
      (okCons (decide_eq_true ⟨hx, y1, z1, hc⟩) (okCons (decide_eq_true (by omega : j < 4)) hL))
    refine ⟨fun d hd => ?_, by simp only [rowF, List.length_cons, g2], ?_, g4⟩
    · simp only [rowF] at hd
      rcases List.mem_cons.1 hd with rfl | hd
      · exact e1
      · exact g1 d hd
    · simp only [rowF, vB]
      rw [g3]
      have : x * (y + 18446744073709551616 * vB ys) = x * y + 18446744073709551616 * (x * vB ys) := by rw [Int.mul_add, Int.mul_left_comm]
      rw [this]
      generalize x * vB ys = q at *
      generalize x * y = p at *
      omega
  | [], _ :: _, _, _, _, _, _, _, hl, _, _, _ => by simp at hl
  | _ :: _, [], _, _, _, _, _, _, hl, _, _, _ => by simp at hl
theorem vB_snoc0 : ∀ l : List Int, vB (l ++ [0]) = vB l
  | [] => rfl
  | d :: ds => by simp only [List.cons_append, vB, vB_snoc0 ds]
theorem rowDm_spec {x i : Int} (hx : word x) (hi : i < 4) {ys zs : List Int} (hy : words ys) (hz : words zs) (ly : ys.length = 4) (lz : zs.length = 4) {L : Log} (hL : okLog L) :
    ∃ h t, rowDm (x == 0) x ys zs = h :: t ∧ word h ∧ words t ∧ t.length = 4 ∧ h + 18446744073709551616 * vB t = vB zs + x * vB ys ∧ okLog (rowE (x == 0) i x ys zs L) := by
  have key : words (rowDm (x == 0) x ys zs) ∧ (rowDm (x == 0) x ys zs).length = 5 ∧ vB (rowDm (x == 0) x ys zs) = vB zs + x * vB ys ∧ okLog (rowE (x == 0) i x ys zs L) := by
    have ji : (jl i).1 = (jl i).2 := decide_eq_true hi
    by_cases h : x = 0
    · have hb : (x == 0) = true := beq_iff_eq.2 h
      rw [hb]
      refine ⟨fun d hd => ?_, by simp [rowDm, lz], ?_, okCons hb (okCons ji hL)⟩
      · simp only [rowDm] at hd
        rcases List.mem_append.1 hd with hd | hd
        · exact hz d hd
        · rw [List.mem_singleton.1 hd]; unfold word; omega
      · simp only [rowDm, vB_snoc0]
        rw [h]; omega
    · have hb : (x == 0) = false := beq_eq_false_iff_ne.2 h
      rw [hb]
      obtain ⟨g1, g2, g3, g4⟩ := row_spec hx ys zs 0 0 ((x == 0, false) :: jl i :: L) hy hz (by unfold word; omega) (by omega) (by omega) (by omega) (okCons hb (okCons ji hL))
      exact ⟨g1, by simp only [rowDm]; omega, by simp only [rowDm]; omega, g4⟩
  obtain ⟨k1, k2, k3, k4⟩ := key
  match hr : rowDm (x == 0) x ys zs, k1, k2, k3 with
  | h :: t, k1, k2, k3 =>
    exact ⟨h, t, rfl, k1 h List.mem_cons_self, fun d hd => k1 d (List.mem_cons_of_mem _ hd), by simpa using k2, k3, k4⟩
def mulV4 (x y : W4) : Value := .tuple #[vW (W4.of (x.val * y.val)), vW (W4.of (x.val * y.val / 115792089237316195423570985008687907853269984665640564039457584007913129639936))]
theorem ysOf_val (y : W4) : vB (ysOf y) = y.val := by unfold ysOf W4.val; simp only [vB]; omega
theorem mul_calls (x y : W4) (hx : x.ok) (hy : y.ok) (w : World) : Calls Try.prog 83 #[vW x, vW y] w fun e w' => e = .returned (mulV4 x y) ∧ Tidy w w' := by
  obtain ⟨x0, x1, x2, x3⟩ := hx
  have wy : words (ysOf y) := fun d hd => by
    obtain ⟨y0, y1, y2, y3⟩ := hy
    unfold ysOf at hd
    simp only [List.mem_cons, List.not_mem_nil, or_false] at hd
    rcases hd with rfl | rfl | rfl | rfl
    · exact y0
    · exact y1
    · exact y2
    · exact y3
  have wz : words [0, 0, 0, 0] := fun d hd => by
    simp only [List.mem_cons, List.not_mem_nil, or_false, or_self] at hd
    rw [hd]; unfold word; omega
  obtain ⟨h0, t0, e0, a0, b0, l0, v0, g0⟩ := rowDm_spec (x := x.a) (i := 0) x0 (by omega) wy wz rfl rfl okNil
  obtain ⟨h1, t1, e1, a1, b1, l1, v1, g1⟩ := rowDm_spec (x := x.b) (i := 1) x1 (by omega) wy b0 rfl l0 g0
  obtain ⟨h2, t2, e2, a2, b2, l2, v2, g2⟩ := rowDm_spec (x := x.c) (i := 2) x2 (by omega) wy b1 rfl l1 g1
  obtain ⟨h3, t3, e3, a3, b3, l3, v3, g3⟩ := rowDm_spec (x := x.d) (i := 3) x3 (by omega) wy b2 rfl l2 g2
  have E0 : r0 (x.a == 0) x y = h0 :: t0 := e0
  have E1 : r1 (x.a == 0) (x.b == 0) x y = h1 :: t1 := by unfold r1; rw [E0]; exact e1
  have E2 : r2 (x.a == 0) (x.b == 0) (x.c == 0) x y = h2 :: t2 := by unfold r2; rw [E1]; exact e2
  have E3 : r3 (x.a == 0) (x.b == 0) (x.c == 0) (x.d == 0) x y = h3 :: t3 := by unfold r3; rw [E2]; exact e3
  have h := fits_calls (tabY_ok conMA_ok) (mul_fits x y (x.a == 0) (x.b == 0) (x.c == 0) (x.d == 0)) (by
    unfold mulLog
    rw [E0, E1, E2]
    exact okCons (by rfl) g3) (by rfl) (by rfl) w
  have hv : mulV (x.a == 0) (x.b == 0) (x.c == 0) (x.d == 0) x y = mulV4 x y := by
    unfold mulV mulV4
    rw [E0, E1, E2, E3]
    match t3, l3, b3, v3 with
    | [q0, q1, q2, q3], _, b3, v3 =>
      simp only [hd, List.headD_cons, List.tail_cons, w4T, List.getD_cons_zero, List.getD_cons_succ]
      have ok1 : (⟨h0, h1, h2, h3⟩ : W4).ok := ⟨a0, a1, a2, a3⟩
      have ok2 : (⟨q0, q1, q2, q3⟩ : W4).ok := ⟨b3 q0 (by simp), b3 q1 (by simp), b3 q2 (by simp), b3 q3 (by simp)⟩
      have key : x.val * y.val = (⟨h0, h1, h2, h3⟩ : W4).val + 115792089237316195423570985008687907853269984665640564039457584007913129639936 * (⟨q0, q1, q2, q3⟩ : W4).val := by
        rw [ysOf_val] at v0 v1 v2 v3
        rw [val_mul x y.val]
        generalize x.a * y.val = p0 at *
        generalize x.b * y.val = p1 at *
        generalize x.c * y.val = p2 at *
        generalize x.d * y.val = p3 at *
        simp only [vB] at v0 v1 v2 v3
        unfold W4.val
        dsimp only
        omega
      have bd1 := W4.val_bd ok1
      have eL : W4.of (x.val * y.val) = ⟨h0, h1, h2, h3⟩ := W4.of_eq ok1 key
      have eH : x.val * y.val / 115792089237316195423570985008687907853269984665640564039457584007913129639936 = (⟨q0, q1, q2, q3⟩ : W4).val := by rw [key]; omega
      rw [eL, eH, W4.of_val ok2]
  rw [hv] at h
  exact h
end Go.Proofs.Ytekebccjflilnaa
namespace Go.Rn
open Go.Nt Go.Wd Go.Pt
/-- a product's sign, size and power -/
def prN (a b : Int) : Bool := sgn a != sgn b
def prV (a b : Int) : Nat := (sg a).toNat * (sg b).toNat
def prE (a b : Int) : Int := xp a + xp b
theorem prN_comm (a b : Int) : prN a b = prN b a := by unfold prN; cases sgn a <;> cases sgn b <;> rfl
theorem prE_bd (a b : Int) : -2148 ≤ prE a b ∧ prE a b ≤ 1944 := by
  have h1 := xp_bd a
  have h2 := xp_bd b
  unfold prE
  omega
theorem prV_lt (a b : Int) : prV a b < 81129638414606681695789005144064 := by
  have h1 := sg_lt a
  have h2 := sg_lt b
  have := Nat.mul_le_mul (show (sg a).toNat ≤ 9007199254740991 by omega) (show (sg b).toNat ≤ 9007199254740991 by omega)
  unfold prV
  omega
theorem may_prod (a b : Int) : May (prE a b) (prV a b) := by
  have h1 := prE_bd a b
  have h2 := prV_lt a b
  refine ⟨?_, by omega, by omega⟩
  have : (2 : Nat) ^ 128 = 340282366920938463463374607431768211456 := rfl
  omega
/-- the product, rounded -/
def mlP (m a b : Int) : Int := rnP m (prN a b) (prV a b) (prE a b)
def mlF (m a b : Int) : Int := rnF m (prN a b) (prV a b) (prE a b)
theorem ml_bd (m a b : Int) : 0 ≤ mlP m a b ∧ mlP m a b ≤ 9218868437227405312 := rnP_bd _ _ _ _
/-- the product and a third number, in units of 2^-2148; its sign; rounded -/
def fsI (a b c : Int) : Int := smI (-2148) (prN a b) (prE a b) (prV a b) (sgn c) (xp c) (sg c).toNat
def fsN (m a b c : Int) : Bool := sgS m (prN a b) (sgn c) (fsI a b c)
def fsP (m a b c : Int) : Int := rnP m (fsN m a b c) (fsI a b c).natAbs (-2148)
def fsF (m a b c : Int) : Int := rnF m (fsN m a b c) (fsI a b c).natAbs (-2148)
theorem fs_bd (m a b c : Int) : 0 ≤ fsP m a b c ∧ fsP m a b c ≤ 9218868437227405312 := rnP_bd _ _ _ _
/-! ### with nothing added -/
theorem szF_zero (F E : Int) : szF F E 0 = 0 := by unfold szF; simp
theorem fs_zero {m a b c : Int} (h0 : sg c = 0) (hs : sgn c = prN a b) : fsN m a b c = prN a b ∧ fsP m a b c = mlP m a b ∧ fsF m a b c = mlF m a b := by
  have hE := prE_bd a b
  have e0 : fsI a b c = sgI (prN a b) (szF (-2148) (prE a b) (prV a b)) := by
    unfold fsI smI
    rw [h0, Int.toNat_zero, szF_zero]
    cases sgn c <;> simp [sgI]
  have ea : (fsI a b c).natAbs = szF (-2148) (prE a b) (prV a b) := by rw [e0]; exact sgI_abs _ _
  have hn : fsN m a b c = prN a b := by
    unfold fsN sgS
    by_cases hz : fsI a b c = 0
    · rw [if_pos hz, hs, if_pos rfl]
    · rw [if_neg hz, e0]
      refine (sgI_neg fun h => hz ?_).1
      rw [e0, h]
      cases prN a b <;> rfl
  have sp := rnP_scale m (prN a b) (prV a b) (prE a b - -2148).toNat (prE a b)
  have sf := rnF_scale m (prN a b) (prV a b) (prE a b - -2148).toNat (prE a b)
  have eE : prE a b - ((prE a b - -2148).toNat : Int) = -2148 := by omega
  rw [eE] at sp sf
  refine ⟨hn, ?_, ?_⟩
  · unfold fsP mlP; rw [hn, ea]; exact sp
  · unfold fsF mlF; rw [hn, ea]; exact sf
/-! ### times 1 -/
/-! ### the other sign -/
theorem prN_ng {a : Int} (ha : U a) (b : Int) : prN (ng a) b = !prN a b := by
  unfold prN
  rw [(ng_parts ha).2.1]
  cases sgn a <;> cases sgn b <;> rfl
theorem ml_ng {m a : Int} (ha : U a) (b : Int) : mlP (swM m) (ng a) b = mlP m a b ∧ mlF (swM m) (ng a) b = mlF m a b := by
  obtain ⟨e1, e2, _⟩ := ng_num ha
  unfold mlP mlF
  have eV : prV (ng a) b = prV a b := by unfold prV; rw [e2]
  have eE : prE (ng a) b = prE a b := by unfold prE; rw [e1]
  rw [prN_ng ha, eV, eE, rnP_swM, rnF_swM]
  exact ⟨rfl, rfl⟩
theorem ml_ng2 {m a b : Int} (ha : U a) (hb : U b) : prN (ng a) (ng b) = prN a b ∧ mlP m (ng a) (ng b) = mlP m a b ∧ mlF m (ng a) (ng b) = mlF m a b := by
  obtain ⟨e1, e2, _⟩ := ng_num ha
  obtain ⟨f1, f2, _⟩ := ng_num hb
  have eN : prN (ng a) (ng b) = prN a b := by rw [prN_ng ha, prN_comm, prN_ng hb, Bool.not_not, prN_comm]
  have eV : prV (ng a) (ng b) = prV a b := by unfold prV; rw [e2, f2]
  have eE : prE (ng a) (ng b) = prE a b := by unfold prE; rw [e1, f1]
  unfold mlP mlF
  rw [eN, eV, eE]
  exact ⟨rfl, rfl, rfl⟩
/-! ### a pattern that was rounded, as a number -/
/-! ### what rounding to the nearest left -/
end Go.Rn
namespace Go.Proofs.Ytekebccjflilnaa
open Go.KRun Go.Wd Go.Pt Go.Rn
set_option maxRecDepth 100000
def conP0 : Con := alt 83 (g2 (plain2 mulV4)) (alt 22 gSA conA0)
theorem conP0_ok : ConOk conP0 := alt_ok Try.func83 rfl (plain2_ok mul_calls) (alt_ok Try.func22 rfl gSA_ok conA0_ok)
/-! ### 0 times Endless -/
def badB (a b : Int) : Bool := decide ((cl a = 0 ∧ cl b = 3) ∨ (cl a = 3 ∧ cl b = 0))
theorem nb_tt (a b : Int) : Fits (reckon (tabOf Try.prog extY conP0 true) 300 43 [.int .u64 a, .int .u64 b] [cmp true, cmp true]) (.bool true) [(cl b == 3, true), lU b, (cl a == 0, true), lU a] := ⟨by kernel_rfl, by kernel_rfl, by kernel_rfl, by kernel_rfl⟩
theorem nb_tff (a b : Int) : Fits (reckon (tabOf Try.prog extY conP0 true) 300 43 [.int .u64 a, .int .u64 b] [cmp true, cmp false, cmp false]) (.bool false) [(cl a == 3, false), lU a, (cl b == 3, false), lU b, (cl a == 0, true), lU a] := ⟨by kernel_rfl, by kernel_rfl, by kernel_rfl, by kernel_rfl⟩
theorem nb_ff (a b : Int) : Fits (reckon (tabOf Try.prog extY conP0 true) 300 43 [.int .u64 a, .int .u64 b] [cmp false, cmp false]) (.bool false) [(cl a == 3, false), lU a, (cl a == 0, false), lU a] := ⟨by kernel_rfl, by kernel_rfl, by kernel_rfl, by kernel_rfl⟩
theorem nb_ftt (a b : Int) : Fits (reckon (tabOf Try.prog extY conP0 true) 300 43 [.int .u64 a, .int .u64 b] [cmp false, cmp true, cmp true]) (.bool true) [(cl b == 0, true), lU b, (cl a == 3, true), lU a, (cl a == 0, false), lU a] := ⟨by kernel_rfl, by kernel_rfl, by kernel_rfl, by kernel_rfl⟩
theorem nb_ftf (a b : Int) : Fits (reckon (tabOf Try.prog extY conP0 true) 300 43 [.int .u64 a, .int .u64 b] [cmp false, cmp true, cmp false]) (.bool false) [(cl b == 0, false), lU b, (cl a == 3, true), lU a, (cl a == 0, false), lU a] := ⟨by kernel_rfl, by kernel_rfl, by kernel_rfl, by kernel_rfl⟩
theorem nb_calls (a b : Int) (ha : U a) (hb : U b) (w : World) : Calls Try.prog 43 #[.int .u64 a, .int .u64 b] w fun r w' => r = .returned (.bool (badB a b)) ∧ Tidy w w' := by
  have hv : ([.int .u64 a, .int .u64 b].all (lt 0)) = true := rfl
  have ka : decide (U a) = true := decide_eq_true ha
  have kb : decide (U b) = true := decide_eq_true hb
  by_cases h0 : cl a = 0
  · by_cases h3 : cl b = 3
    · rw [show badB a b = true from decide_eq_true (.inl ⟨h0, h3⟩)]
      exact fits_calls (tabY_ok conP0_ok) (nb_tt a b) (okCons (beq_t h3) (okCons kb (okCons (beq_t h0) (okL1 ka)))) hv (by rfl) w
    · rw [show badB a b = false from decide_eq_false (by omega)]
      exact fits_calls (tabY_ok conP0_ok) (nb_tff a b) (okCons (beq_f (by omega)) (okCons ka (okCons (beq_f h3) (okCons kb (okCons (beq_t h0) (okL1 ka)))))) hv (by rfl) w
  · by_cases h3 : cl a = 3
    · by_cases hz : cl b = 0
      · rw [show badB a b = true from decide_eq_true (.inr ⟨h3, hz⟩)]
        exact fits_calls (tabY_ok conP0_ok) (nb_ftt a b) (okCons (beq_t hz) (okCons kb (okCons (beq_t h3) (okCons ka (okCons (beq_f h0) (okL1 ka)))))) hv (by rfl) w
      · rw [show badB a b = false from decide_eq_false (by omega)]
        exact fits_calls (tabY_ok conP0_ok) (nb_ftf a b) (okCons (beq_f hz) (okCons kb (okCons (beq_t h3) (okCons ka (okCons (beq_f h0) (okL1 ka)))))) hv (by rfl) w
    · rw [show badB a b = false from decide_eq_false (by omega)]
      exact fits_calls (tabY_ok conP0_ok) (nb_ff a b) (okCons (beq_f h3) (okCons ka (okCons (beq_f h0) (okL1 ka)))) hv (by rfl) w
/-! ### Endless, with a product's sign -/
theorem xor_top {a b : Int} (ha : U a) (hb : U b) : U (bXor a b) ∧ bAnd (bXor a b) 9223372036854775808 = if prN a b = true then 9223372036854775808 else 0 := by
  obtain ⟨A, rfl⟩ := Int.eq_ofNat_of_zero_le ha.1
  obtain ⟨B, rfl⟩ := Int.eq_ofNat_of_zero_le hb.1
  have h1 : A < 2 ^ 64 := by have := ha.2; omega
  have h2 : B < 2 ^ 64 := by have := hb.2; omega
  have hx : A ^^^ B < 2 ^ 64 := Nat.xor_lt_two_pow h1 h2
  have e : bXor (A : Int) (B : Int) = ((A ^^^ B : Nat) : Int) := by
    unfold bXor
    rw [back, BitVec.toNat_xor, ofU (by omega), ofU (by omega)]
  have hU : U (bXor (A : Int) (B : Int)) := by rw [e]; exact ⟨by omega, by omega⟩
  refine ⟨hU, ?_⟩
  rw [bAnd_sign hU, e]
  have hd : (A ^^^ B) / 2 ^ 63 = A / 2 ^ 63 ^^^ B / 2 ^ 63 := Nat.xor_div_two_pow
  have a1 : A / 2 ^ 63 < 2 := by omega
  have b1 : B / 2 ^ 63 < 2 := by omega
  have hA : sgn (A : Int) = decide (A / 2 ^ 63 = 1) := by
    unfold sgn
    by_cases h : A / 2 ^ 63 = 1
    · rw [decide_eq_true h]; exact decide_eq_true (by omega)
    · rw [decide_eq_false h]; exact decide_eq_false (by omega)
  have hB : sgn (B : Int) = decide (B / 2 ^ 63 = 1) := by
    unfold sgn
    by_cases h : B / 2 ^ 63 = 1
    · rw [decide_eq_true h]; exact decide_eq_true (by omega)
    · rw [decide_eq_false h]; exact decide_eq_false (by omega)
  have e2 : ((A ^^^ B : Nat) : Int) / 9223372036854775808 = ((A / 2 ^ 63 ^^^ B / 2 ^ 63 : Nat) : Int) := by rw [← hd]; omega
  rw [e2]
  unfold prN
  rw [hA, hB]
  generalize A / 2 ^ 63 = x at *
  generalize B / 2 ^ 63 = y at *
  have hx : x = 0 ∨ x = 1 := by omega
  have hy : y = 0 ∨ y = 1 := by omega
  rcases hx with rfl | rfl <;> rcases hy with rfl | rfl <;> decide
def inf : Int := 9218868437227405312
theorem en_fits (a b : Int) : Fits (reckon (tabOf Try.prog extY conP0 true) 300 47 [.int .u64 a, .int .u64 b] []) (.int .u64 (bOr (bNot 9218868437227405312 9223372036854775808) (bAnd (bXor a b) 9223372036854775808))) [] := ⟨by kernel_rfl, by kernel_rfl, by kernel_rfl, by kernel_rfl⟩
theorem en_eq {a b : Int} (ha : U a) (hb : U b) : bOr (bNot 9218868437227405312 9223372036854775808) (bAnd (bXor a b) 9223372036854775808) = sS (prN a b) inf := by
  rw [(xor_top ha hb).2]
  cases prN a b <;> decide
theorem en_calls (a b : Int) (ha : U a) (hb : U b) (w : World) : Calls Try.prog 47 #[.int .u64 a, .int .u64 b] w fun r w' => r = .returned (.int .u64 (sS (prN a b) inf)) ∧ Tidy w w' := by
  have := fits_calls (tabY_ok conP0_ok) (en_fits a b) (fun x hx => by cases hx) (by rfl) (by rfl) w
  rw [en_eq ha hb] at this
  exact this
/-! ### the exact product -/
theorem xa_fits (a b : Int) : Fits (reckon (tabOf Try.prog extY conP0 true) 300 48 [.int .u64 a, .int .u64 b] [cmp true, cmp true]) (vN (prN a b) (IntKind.i64.wrap (xp a + xp b)) (W4.of ((wSg a).val * (wSg b).val)) false) [(decide ((wSg a).ok ∧ (wSg b).ok), true), lU b, (decide (cl b ≤ 2), true), lU b, lU a, (decide (cl a ≤ 2), true), lU a] := ⟨by kernel_rfl, by kernel_rfl, by kernel_rfl, by kernel_rfl⟩
def vPx (a b : Int) : Value := vN (prN a b) (prE a b) (ofN (prV a b)) false
def finB (a b : Int) : Bool := decide (cl a ≤ 2 ∧ cl b ≤ 2)
theorem xa_calls (a b : Int) (ha : U a) (hb : U b) (h : finB a b = true) (w : World) : Calls Try.prog 48 #[.int .u64 a, .int .u64 b] w fun r w' => r = .returned (vPx a b) ∧ Tidy w w' := by
  obtain ⟨ca, cb⟩ := of_decide_eq_true h
  have ka : decide (U a) = true := decide_eq_true ha
  have kb : decide (U b) = true := decide_eq_true hb
  have hE := prE_bd a b
  have e1 : IntKind.i64.wrap (xp a + xp b) = prE a b := wrapI' ⟨by unfold prE at hE; omega, by unfold prE at hE; omega⟩
  have e2 : W4.of ((wSg a).val * (wSg b).val) = ofN (prV a b) := by
    unfold ofN prV
    rw [W4.nat_val (wSg_ok a), W4.nat_val (wSg_ok b), wSg_nat, wSg_nat, Int.natCast_mul]
  have := fits_calls (tabY_ok conP0_ok) (xa_fits a b) (okCons (decide_eq_true ⟨wSg_ok a, wSg_ok b⟩) (okCons kb (okCons (decide_eq_true cb) (okCons kb (okCons ka (okCons (decide_eq_true ca) (okL1 ka))))))) (by rfl) (by rfl) w
  rw [e1, e2] at this
  exact this
def conP1 : Con := alt 43 (gUUb badB) (alt 47 (gUU (fun a b => .int .u64 (sS (prN a b) inf)) (fun _ _ => true)) (alt 48 (gUU vPx finB) conP0))
theorem conP1_ok : ConOk conP1 := alt_ok Try.func43 rfl (gUUb_ok nb_calls) (alt_ok Try.func47 rfl (gUU_ok fun a b ha hb _ w => en_calls a b ha hb w) (alt_ok Try.func48 rfl (gUU_ok xa_calls) conP0_ok))
theorem ml_bad (a b m : Int) : Fits (reckon (tabOf Try.prog extY conP1 true) 300 26 [.int .u64 a, .int .u64 b, .int .i64 m] [cmp true]) (rdT 9221120237041090560 1) [(badB a b, true), (decide (U a ∧ U b), true)] := ⟨by kernel_rfl, by kernel_rfl, by kernel_rfl, by kernel_rfl⟩
theorem ml_n1 (a b m : Int) : Fits (reckon (tabOf Try.prog extY conP1 true) 300 26 [.int .u64 a, .int .u64 b, .int .i64 m] [cmp false, cmp true, cmp true, cmp true]) (rdT 9221120237041090560 1) [(cl a == 5, true), lU a, (decide ((0 : Int) < ((2 : Nat) : Int)), true), (decide (cl a > 3), true), lU a, (badB a b, false), (decide (U a ∧ U b), true)] := ⟨by kernel_rfl, by kernel_rfl, by kernel_rfl, by kernel_rfl⟩
theorem ml_n2 (a b m : Int) : Fits (reckon (tabOf Try.prog extY conP1 true) 300 26 [.int .u64 a, .int .u64 b, .int .i64 m] [cmp false, cmp true, cmp true, cmp false, cmp true, cmp true]) (rdT 9221120237041090560 1) [(cl b == 5, true), lU b, (decide (IntKind.i64.wrap (0 + 1) < ((2 : Nat) : Int)), true), (cl a == 5, false), lU a, (decide ((0 : Int) < ((2 : Nat) : Int)), true), (decide (cl a > 3), true), lU a, (badB a b, false), (decide (U a ∧ U b), true)] := ⟨by kernel_rfl, by kernel_rfl, by kernel_rfl, by kernel_rfl⟩
theorem ml_n3 (a b m : Int) : Fits (reckon (tabOf Try.prog extY conP1 true) 300 26 [.int .u64 a, .int .u64 b, .int .i64 m] [cmp false, cmp true, cmp true, cmp false, cmp true, cmp false, cmp false]) (rdT 9221120237041090560 0) [(decide (IntKind.i64.wrap (IntKind.i64.wrap (0 + 1) + 1) < ((2 : Nat) : Int)), false), (cl b == 5, false), lU b, (decide (IntKind.i64.wrap (0 + 1) < ((2 : Nat) : Int)), true), (cl a == 5, false), lU a, (decide ((0 : Int) < ((2 : Nat) : Int)), true), (decide (cl a > 3), true), lU a, (badB a b, false), (decide (U a ∧ U b), true)] := ⟨by kernel_rfl, by kernel_rfl, by kernel_rfl, by kernel_rfl⟩
theorem ml_m2 (a b m : Int) : Fits (reckon (tabOf Try.prog extY conP1 true) 300 26 [.int .u64 a, .int .u64 b, .int .i64 m] [cmp false, cmp false, cmp true, cmp true, cmp false, cmp true, cmp true]) (rdT 9221120237041090560 1) [(cl b == 5, true), lU b, (decide (IntKind.i64.wrap (0 + 1) < ((2 : Nat) : Int)), true), (cl a == 5, false), lU a, (decide ((0 : Int) < ((2 : Nat) : Int)), true), (decide (cl b > 3), true), lU b, (decide (cl a > 3), false), lU a, (badB a b, false), (decide (U a ∧ U b), true)] := ⟨by kernel_rfl, by kernel_rfl, by kernel_rfl, by kernel_rfl⟩
theorem ml_m3 (a b m : Int) : Fits (reckon (tabOf Try.prog extY conP1 true) 300 26 [.int .u64 a, .int .u64 b, .int .i64 m] [cmp false, cmp false, cmp true, cmp true, cmp false, cmp true, cmp false, cmp false]) (rdT 9221120237041090560 0) [(decide (IntKind.i64.wrap (IntKind.i64.wrap (0 + 1) + 1) < ((2 : Nat) : Int)), false), (cl b == 5, false), lU b, (decide (IntKind.i64.wrap (0 + 1) < ((2 : Nat) : Int)), true), (cl a == 5, false), lU a, (decide ((0 : Int) < ((2 : Nat) : Int)), true), (decide (cl b > 3), true), lU b, (decide (cl a > 3), false), lU a, (badB a b, false), (decide (U a ∧ U b), true)] := ⟨by kernel_rfl, by kernel_rfl, by kernel_rfl, by kernel_rfl⟩
theorem ml_ea (a b m : Int) : Fits (reckon (tabOf Try.prog extY conP1 true) 300 26 [.int .u64 a, .int .u64 b, .int .i64 m] [cmp false, cmp false, cmp false, cmp true]) (rdT (sS (prN a b) inf) 0) [(true, true), (decide (U a ∧ U b), true), (cl a == 3, true), lU a, (decide (cl b > 3), false), lU b, (decide (cl a > 3), false), lU a, (badB a b, false), (decide (U a ∧ U b), true)] := ⟨by kernel_rfl, by kernel_rfl, by kernel_rfl, by kernel_rfl⟩
theorem ml_eb (a b m : Int) : Fits (reckon (tabOf Try.prog extY conP1 true) 300 26 [.int .u64 a, .int .u64 b, .int .i64 m] [cmp false, cmp false, cmp false, cmp false, cmp true]) (rdT (sS (prN a b) inf) 0) [(true, true), (decide (U a ∧ U b), true), (cl b == 3, true), lU b, (cl a == 3, false), lU a, (decide (cl b > 3), false), lU b, (decide (cl a > 3), false), lU a, (badB a b, false), (decide (U a ∧ U b), true)] := ⟨by kernel_rfl, by kernel_rfl, by kernel_rfl, by kernel_rfl⟩
theorem ml_fin (a b m : Int) : Fits (reckon (tabOf Try.prog extY conP1 true) 300 26 [.int .u64 a, .int .u64 b, .int .i64 m] [cmp false, cmp false, cmp false, cmp false, cmp false]) (rdV m (prN a b) (tw (ofN (prV a b)) false) (clp (prE a b) - 1)) [(decide (ofN (prV a b)).ok, true), (finB a b, true), (decide (U a ∧ U b), true), (cl b == 3, false), lU b, (cl a == 3, false), lU a, (decide (cl b > 3), false), lU b, (decide (cl a > 3), false), lU a, (badB a b, false), (decide (U a ∧ U b), true)] := ⟨by kernel_rfl, by kernel_rfl, by kernel_rfl, by kernel_rfl⟩
/-- what Mul answers -/
def muP (m a b : Int) : Int := if badB a b = true then 9221120237041090560 else if 3 < cl a ∨ 3 < cl b then 9221120237041090560 else if cl a = 3 ∨ cl b = 3 then sS (prN a b) inf else sS (prN a b) (mlP m a b)
def muF (m a b : Int) : Int := if badB a b = true then 1 else if 3 < cl a ∨ 3 < cl b then (if cl a = 5 ∨ cl b = 5 then 1 else 0) else if cl a = 3 ∨ cl b = 3 then 0 else mlF m a b
theorem prV_256 (a b : Int) : prV a b < 2 ^ 256 := by
  have := prV_lt a b
  exact Nat.lt_trans this (by decide)
theorem px_round (m a b : Int) : rdV m (prN a b) (tw (ofN (prV a b)) false) (clp (prE a b) - 1) = rdT (sS (prN a b) (mlP m a b)) (mlF m a b) := by
  obtain ⟨c1, c2⟩ := clp_round m (prN a b) (ofN_ok (prV a b)) false (prE a b)
  have e := tw_of (prV_256 a b) false
  have e2 : 2 * prV a b + bN false = prV a b * 2 ^ 1 := by show 2 * prV a b + 0 = _; omega
  have p := rnP_scale m (prN a b) (prV a b) 1 (prE a b)
  have q := rnF_scale m (prN a b) (prV a b) 1 (prE a b)
  have e3 : prE a b - ((1 : Nat) : Int) = prE a b - 1 := rfl
  rw [e3] at p q
  unfold rdV mlP mlF
  rw [c1, c2, e, e2, p, q]
theorem pmul_calls (a b m : Int) (ha : U a) (hb : U b) (w : World) : Calls Try.prog 26 #[.int .u64 a, .int .u64 b, .int .i64 m] w fun r w' => r = .returned (rdT (muP m a b) (muF m a b)) ∧ Tidy w w' := by
  have hv : ([.int .u64 a, .int .u64 b, .int .i64 m].all (lt 0)) = true := rfl
  have T := tabY_ok conP1_ok
  have ka : decide (U a) = true := decide_eq_true ha
  have kb : decide (U b) = true := decide_eq_true hb
  have kab : decide (U a ∧ U b) = true := decide_eq_true ⟨ha, hb⟩
  have ba := cl_bd a
  have bb := cl_bd b
  unfold muP muF
  by_cases hbd : badB a b = true
  · rw [if_pos hbd, if_pos hbd]
    exact fits_calls T (ml_bad a b m) (okCons hbd (okL1 kab)) hv (by rfl) w
  · have hb0 : badB a b = false := by simpa using hbd
    rw [if_neg hbd, if_neg hbd]
    by_cases ha3 : 3 < cl a
    · rw [if_pos (.inl ha3), if_pos (.inl ha3)]
      by_cases a5 : cl a = 5
      · rw [if_pos (.inl a5)]
        exact fits_calls T (ml_n1 a b m) (okCons (beq_t a5) (okCons ka (okCons (by decide) (okCons (decide_eq_true ha3) (okCons ka (okCons hb0 (okL1 kab))))))) hv (by rfl) w
      · by_cases b5 : cl b = 5
        · rw [if_pos (.inr b5)]
          exact fits_calls T (ml_n2 a b m) (okCons (beq_t b5) (okCons kb (okCons (by decide) (okCons (beq_f (by omega)) (okCons ka (okCons (by decide) (okCons (decide_eq_true ha3) (okCons ka (okCons hb0 (okL1 kab)))))))))) hv (by rfl) w
        · rw [if_neg (by omega)]
          exact fits_calls T (ml_n3 a b m) (okCons (by decide) (okCons (beq_f (by omega)) (okCons kb (okCons (by decide) (okCons (beq_f (by omega)) (okCons ka (okCons (by decide) (okCons (decide_eq_true ha3) (okCons ka (okCons hb0 (okL1 kab))))))))))) hv (by rfl) w
    · by_cases hb3 : 3 < cl b
      · rw [if_pos (.inr hb3), if_pos (.inr hb3)]
        by_cases b5 : cl b = 5
        · rw [if_pos (.inr b5)]
          exact fits_calls T (ml_m2 a b m) (okCons (beq_t b5) (okCons kb (okCons (by decide) (okCons (beq_f (by omega)) (okCons ka (okCons (by decide) (okCons (decide_eq_true hb3) (okCons kb (okCons (decide_eq_false ha3) (okCons ka (okCons hb0 (okL1 kab)))))))))))) hv (by rfl) w
        · rw [if_neg (by omega)]
          exact fits_calls T (ml_m3 a b m) (okCons (by decide) (okCons (beq_f (by omega)) (okCons kb (okCons (by decide) (okCons (beq_f (by omega)) (okCons ka (okCons (by decide) (okCons (decide_eq_true hb3) (okCons kb (okCons (decide_eq_false ha3) (okCons ka (okCons hb0 (okL1 kab))))))))))))) hv (by rfl) w
      · have hno : ¬ (3 < cl a ∨ 3 < cl b) := by omega
        rw [if_neg hno, if_neg hno]
        by_cases ae : cl a = 3
        · rw [if_pos (.inl ae), if_pos (.inl ae)]
          exact fits_calls T (ml_ea a b m) (okCons rfl (okCons kab (okCons (beq_t ae) (okCons ka (okCons (decide_eq_false hb3) (okCons kb (okCons (decide_eq_false ha3) (okCons ka (okCons hb0 (okL1 kab)))))))))) hv (by rfl) w
        · by_cases be : cl b = 3
          · rw [if_pos (.inr be), if_pos (.inr be)]
            exact fits_calls T (ml_eb a b m) (okCons rfl (okCons kab (okCons (beq_t be) (okCons kb (okCons (beq_f ae) (okCons ka (okCons (decide_eq_false hb3) (okCons kb (okCons (decide_eq_false ha3) (okCons ka (okCons hb0 (okL1 kab)))))))))))) hv (by rfl) w
          · have hno2 : ¬ (cl a = 3 ∨ cl b = 3) := by omega
            rw [if_neg hno2, if_neg hno2]
            have hf := ml_fin a b m
            rw [px_round] at hf
            exact fits_calls T hf (okCons (decide_eq_true (ofN_ok _)) (okCons (decide_eq_true ⟨by omega, by omega⟩) (okCons kab (okCons (beq_f be) (okCons kb (okCons (beq_f ae) (okCons ka (okCons (decide_eq_false hb3) (okCons kb (okCons (decide_eq_false ha3) (okCons ka (okCons hb0 (okL1 kab))))))))))))) hv (by rfl) w
def gPM : Ans := fun vals s =>
  match vals with
  | [.int .u64 a, .int .u64 b, .int .i64 m] => some (rdT (muP m a b) (muF m a b), s, [(decide (U a ∧ U b), true)])
  | _ => none
theorem gPM_ok : AnsOk 26 gPM := by
  intro vals s v s' lg h hl w
  unfold gPM at h
  split at h
  · cases h
    obtain ⟨h1, h2⟩ := of_decide_eq_true (hl _ (List.mem_singleton.2 rfl))
    exact pmul_calls _ _ _ h1 h2 w
  · cases h
theorem fm_bad (a b c m : Int) : Fits (reckon (tabOf Try.prog extY conP1 true) 300 27 [.int .u64 a, .int .u64 b, .int .u64 c, .int .i64 m] [cmp true]) (rdT 9221120237041090560 1) [(badB a b, true), (decide (U a ∧ U b), true)] := ⟨by kernel_rfl, by kernel_rfl, by kernel_rfl, by kernel_rfl⟩
theorem fm_a1 (a b c m : Int) : Fits (reckon (tabOf Try.prog extY conP1 true) 300 27 [.int .u64 a, .int .u64 b, .int .u64 c, .int .i64 m] [cmp false, cmp true, cmp true, cmp true]) (rdT 9221120237041090560 1) [(cl a == 5, true), lU a, (decide ((0 : Int) < ((3 : Nat) : Int)), true), (decide (cl a > 3), true), lU a, (badB a b, false), (decide (U a ∧ U b), true)] := ⟨by kernel_rfl, by kernel_rfl, by kernel_rfl, by kernel_rfl⟩
theorem fm_a2 (a b c m : Int) : Fits (reckon (tabOf Try.prog extY conP1 true) 300 27 [.int .u64 a, .int .u64 b, .int .u64 c, .int .i64 m] [cmp false, cmp true, cmp true, cmp false, cmp true, cmp true]) (rdT 9221120237041090560 1) [(cl b == 5, true), lU b, (decide (IntKind.i64.wrap (0 + 1) < ((3 : Nat) : Int)), true), (cl a == 5, false), lU a, (decide ((0 : Int) < ((3 : Nat) : Int)), true), (decide (cl a > 3), true), lU a, (badB a b, false), (decide (U a ∧ U b), true)] := ⟨by kernel_rfl, by kernel_rfl, by kernel_rfl, by kernel_rfl⟩
theorem fm_a3 (a b c m : Int) : Fits (reckon (tabOf Try.prog extY conP1 true) 300 27 [.int .u64 a, .int .u64 b, .int .u64 c, .int .i64 m] [cmp false, cmp true, cmp true, cmp false, cmp true, cmp false, cmp true, cmp true]) (rdT 9221120237041090560 1) [(cl c == 5, true), lU c, (decide (IntKind.i64.wrap (IntKind.i64.wrap (0 + 1) + 1) < ((3 : Nat) : Int)), true), (cl b == 5, false), lU b, (decide (IntKind.i64.wrap (0 + 1) < ((3 : Nat) : Int)), true), (cl a == 5, false), lU a, (decide ((0 : Int) < ((3 : Nat) : Int)), true), (decide (cl a > 3), true), lU a, (badB a b, false), (decide (U a ∧ U b), true)] := ⟨by kernel_rfl, by kernel_rfl, by kernel_rfl, by kernel_rfl⟩
theorem fm_a0 (a b c m : Int) : Fits (reckon (tabOf Try.prog extY conP1 true) 300 27 [.int .u64 a, .int .u64 b, .int .u64 c, .int .i64 m] [cmp false, cmp true, cmp true, cmp false, cmp true, cmp false, cmp true, cmp false, cmp false]) (rdT 9221120237041090560 0) [(decide (IntKind.i64.wrap (IntKind.i64.wrap (IntKind.i64.wrap (0 + 1) + 1) + 1) < ((3 : Nat) : Int)), false), (cl c == 5, false), lU c, (decide (IntKind.i64.wrap (IntKind.i64.wrap (0 + 1) + 1) < ((3 : Nat) : Int)), true), (cl b == 5, false), lU b, (decide (IntKind.i64.wrap (0 + 1) < ((3 : Nat) : Int)), true), (cl a == 5, false), lU a, (decide ((0 : Int) < ((3 : Nat) : Int)), true), (decide (cl a > 3), true), lU a, (badB a b, false), (decide (U a ∧ U b), true)] := ⟨by kernel_rfl, by kernel_rfl, by kernel_rfl, by kernel_rfl⟩
theorem fm_b2 (a b c m : Int) : Fits (reckon (tabOf Try.prog extY conP1 true) 300 27 [.int .u64 a, .int .u64 b, .int .u64 c, .int .i64 m] [cmp false, cmp false, cmp true, cmp true, cmp false, cmp true, cmp true]) (rdT 9221120237041090560 1) [(cl b == 5, true), lU b, (decide (IntKind.i64.wrap (0 + 1) < ((3 : Nat) : Int)), true), (cl a == 5, false), lU a, (decide ((0 : Int) < ((3 : Nat) : Int)), true), (decide (cl b > 3), true), lU b, (decide (cl a > 3), false), lU a, (badB a b, false), (decide (U a ∧ U b), true)] := ⟨by kernel_rfl, by kernel_rfl, by kernel_rfl, by kernel_rfl⟩
theorem fm_b3 (a b c m : Int) : Fits (reckon (tabOf Try.prog extY conP1 true) 300 27 [.int .u64 a, .int .u64 b, .int .u64 c, .int .i64 m] [cmp false, cmp false, cmp true, cmp true, cmp false, cmp true, cmp false, cmp true, cmp true]) (rdT 9221120237041090560 1) [(cl c == 5, true), lU c, (decide (IntKind.i64.wrap (IntKind.i64.wrap (0 + 1) + 1) < ((3 : Nat) : Int)), true), (cl b == 5, false), lU b, (decide (IntKind.i64.wrap (0 + 1) < ((3 : Nat) : Int)), true), (cl a == 5, false), lU a, (decide ((0 : Int) < ((3 : Nat) : Int)), true), (decide (cl b > 3), true), lU b, (decide (cl a > 3), false), lU a, (badB a b, false), (decide (U a ∧ U b), true)] := ⟨by kernel_rfl, by kernel_rfl, by kernel_rfl, by kernel_rfl⟩
theorem fm_b0 (a b c m : Int) : Fits (reckon (tabOf Try.prog extY conP1 true) 300 27 [.int .u64 a, .int .u64 b, .int .u64 c, .int .i64 m] [cmp false, cmp false, cmp true, cmp true, cmp false, cmp true, cmp false, cmp true, cmp false, cmp false]) (rdT 9221120237041090560 0) [(decide (IntKind.i64.wrap (IntKind.i64.wrap (IntKind.i64.wrap (0 + 1) + 1) + 1) < ((3 : Nat) : Int)), false), (cl c == 5, false), lU c, (decide (IntKind.i64.wrap (IntKind.i64.wrap (0 + 1) + 1) < ((3 : Nat) : Int)), true), (cl b == 5, false), lU b, (decide (IntKind.i64.wrap (0 + 1) < ((3 : Nat) : Int)), true), (cl a == 5, false), lU a, (decide ((0 : Int) < ((3 : Nat) : Int)), true), (decide (cl b > 3), true), lU b, (decide (cl a > 3), false), lU a, (badB a b, false), (decide (U a ∧ U b), true)] := ⟨by kernel_rfl, by kernel_rfl, by kernel_rfl, by kernel_rfl⟩
theorem fm_c3 (a b c m : Int) : Fits (reckon (tabOf Try.prog extY conP1 true) 300 27 [.int .u64 a, .int .u64 b, .int .u64 c, .int .i64 m] [cmp false, cmp false, cmp false, cmp true, cmp true, cmp false, cmp true, cmp false, cmp true, cmp true]) (rdT 9221120237041090560 1) [(cl c == 5, true), lU c, (decide (IntKind.i64.wrap (IntKind.i64.wrap (0 + 1) + 1) < ((3 : Nat) : Int)), true), (cl b == 5, false), lU b, (decide (IntKind.i64.wrap (0 + 1) < ((3 : Nat) : Int)), true), (cl a == 5, false), lU a, (decide ((0 : Int) < ((3 : Nat) : Int)), true), (decide (cl c > 3), true), lU c, (decide (cl b > 3), false), lU b, (decide (cl a > 3), false), lU a, (badB a b, false), (decide (U a ∧ U b), true)] := ⟨by kernel_rfl, by kernel_rfl, by kernel_rfl, by kernel_rfl⟩
theorem fm_c0 (a b c m : Int) : Fits (reckon (tabOf Try.prog extY conP1 true) 300 27 [.int .u64 a, .int .u64 b, .int .u64 c, .int .i64 m] [cmp false, cmp false, cmp false, cmp true, cmp true, cmp false, cmp true, cmp false, cmp true, cmp false, cmp false]) (rdT 9221120237041090560 0) [(decide (IntKind.i64.wrap (IntKind.i64.wrap (IntKind.i64.wrap (0 + 1) + 1) + 1) < ((3 : Nat) : Int)), false), (cl c == 5, false), lU c, (decide (IntKind.i64.wrap (IntKind.i64.wrap (0 + 1) + 1) < ((3 : Nat) : Int)), true), (cl b == 5, false), lU b, (decide (IntKind.i64.wrap (0 + 1) < ((3 : Nat) : Int)), true), (cl a == 5, false), lU a, (decide ((0 : Int) < ((3 : Nat) : Int)), true), (decide (cl c > 3), true), lU c, (decide (cl b > 3), false), lU b, (decide (cl a > 3), false), lU a, (badB a b, false), (decide (U a ∧ U b), true)] := ⟨by kernel_rfl, by kernel_rfl, by kernel_rfl, by kernel_rfl⟩
theorem fm_ea (a b c m : Int) : Fits (reckon (tabOf Try.prog extY conP1 true) 300 27 [.int .u64 a, .int .u64 b, .int .u64 c, .int .i64 m] [cmp false, cmp false, cmp false, cmp false, cmp true]) (suV m (sS (prN a b) inf) c) [(decide (U (sS (prN a b) inf) ∧ U c), true), (true, true), (decide (U a ∧ U b), true), (cl a == 3, true), lU a, (decide (cl c > 3), false), lU c, (decide (cl b > 3), false), lU b, (decide (cl a > 3), false), lU a, (badB a b, false), (decide (U a ∧ U b), true)] := ⟨by kernel_rfl, by kernel_rfl, by kernel_rfl, by kernel_rfl⟩
theorem fm_eb (a b c m : Int) : Fits (reckon (tabOf Try.prog extY conP1 true) 300 27 [.int .u64 a, .int .u64 b, .int .u64 c, .int .i64 m] [cmp false, cmp false, cmp false, cmp false, cmp false, cmp true]) (suV m (sS (prN a b) inf) c) [(decide (U (sS (prN a b) inf) ∧ U c), true), (true, true), (decide (U a ∧ U b), true), (cl b == 3, true), lU b, (cl a == 3, false), lU a, (decide (cl c > 3), false), lU c, (decide (cl b > 3), false), lU b, (decide (cl a > 3), false), lU a, (badB a b, false), (decide (U a ∧ U b), true)] := ⟨by kernel_rfl, by kernel_rfl, by kernel_rfl, by kernel_rfl⟩
theorem fm_ec (a b c m : Int) : Fits (reckon (tabOf Try.prog extY conP1 true) 300 27 [.int .u64 a, .int .u64 b, .int .u64 c, .int .i64 m] [cmp false, cmp false, cmp false, cmp false, cmp false, cmp false, cmp true]) (rdT c 0) [(cl c == 3, true), lU c, (cl b == 3, false), lU b, (cl a == 3, false), lU a, (decide (cl c > 3), false), lU c, (decide (cl b > 3), false), lU b, (decide (cl a > 3), false), lU a, (badB a b, false), (decide (U a ∧ U b), true)] := ⟨by kernel_rfl, by kernel_rfl, by kernel_rfl, by kernel_rfl⟩
theorem fm_fin (a b c m : Int) : Fits (reckon (tabOf Try.prog extY conP1 true) 300 27 [.int .u64 a, .int .u64 b, .int .u64 c, .int .i64 m] [cmp false, cmp false, cmp false, cmp false, cmp false, cmp false, cmp false, cmp true]) (rdV m (xuN m (prN a b) (prE a b) (ofN (prV a b)).nat (sgn c) (xp c) (wSg c).nat) (tw (ofN (xuQ (prN a b) (prE a b) (ofN (prV a b)).nat (sgn c) (xp c) (wSg c).nat)) (xuB (prN a b) (prE a b) (ofN (prV a b)).nat (sgn c) (xp c) (wSg c).nat)) (clp (unN (prE a b) (ofN (prV a b)).nat (xp c) (wSg c).nat) - 1)) [(decide (ofN (xuQ (prN a b) (prE a b) (ofN (prV a b)).nat (sgn c) (xp c) (wSg c).nat)).ok, true), (okEx (prE a b) (ofN (prV a b)) false (xp c) (wSg c) false, true), (finB a b, true), (decide (U a ∧ U b), true), (okEx (prE a b) (ofN (prV a b)) false (xp c) (wSg c) false, true), (okEx (prE a b) (ofN (prV a b)) false (xp c) (wSg c) false, true), (finB a b, true), (decide (U a ∧ U b), true), lU c, (decide (cl c ≤ 2), true), lU c, (cl c == 3, false), lU c, (cl b == 3, false), lU b, (cl a == 3, false), lU a, (decide (cl c > 3), false), lU c, (decide (cl b > 3), false), lU b, (decide (cl a > 3), false), lU a, (badB a b, false), (decide (U a ∧ U b), true)] := ⟨by kernel_rfl, by kernel_rfl, by kernel_rfl, by kernel_rfl⟩
/-- what Fma answers -/
def fmP (m a b c : Int) : Int := if badB a b = true then 9221120237041090560 else if 3 < cl a ∨ 3 < cl b ∨ 3 < cl c then 9221120237041090560 else if cl a = 3 ∨ cl b = 3 then suP m (sS (prN a b) inf) c else if cl c = 3 then c else sS (fsN m a b c) (fsP m a b c)
def fmF (m a b c : Int) : Int := if badB a b = true then 1 else if 3 < cl a ∨ 3 < cl b ∨ 3 < cl c then (if cl a = 5 ∨ cl b = 5 ∨ cl c = 5 then 1 else 0) else if cl a = 3 ∨ cl b = 3 then suF m (sS (prN a b) inf) c else if cl c = 3 then 0 else fsF m a b c
theorem inf_U (n : Bool) : U (sS n inf) := by cases n <;> decide
theorem fx_round (m a b c : Int) : rdV m (xuN m (prN a b) (prE a b) (ofN (prV a b)).nat (sgn c) (xp c) (wSg c).nat) (tw (ofN (xuQ (prN a b) (prE a b) (ofN (prV a b)).nat (sgn c) (xp c) (wSg c).nat)) (xuB (prN a b) (prE a b) (ofN (prV a b)).nat (sgn c) (xp c) (wSg c).nat)) (clp (unN (prE a b) (ofN (prV a b)).nat (xp c) (wSg c).nat) - 1) = rdT (sS (fsN m a b c) (fsP m a b c)) (fsF m a b c) := by
  have hE := prE_bd a b
  have hc := xp_bd c
  rw [ofN_nat (prV_256 a b), wSg_nat]
  exact xu_rd m m (may_prod a b) (may_pat c) (G := -2148) (by omega) (by omega) (prN a b) (sgn c)
theorem kE_of (a b c : Int) : okEx (prE a b) (ofN (prV a b)) false (xp c) (wSg c) false = true := by
  have h1 := may_prod a b
  have h2 := may_pat c
  refine decide_eq_true ⟨ofN_ok _, wSg_ok c, rfl, rfl, (may_iff (ofN_ok _)).2 ?_, (may_iff (wSg_ok c)).2 ?_⟩
  · rw [ofN_nat (prV_256 a b)]; exact h1
  · rw [wSg_nat]; exact h2
theorem pfma_calls (a b c m : Int) (ha : U a) (hb : U b) (hc : U c) (w : World) : Calls Try.prog 27 #[.int .u64 a, .int .u64 b, .int .u64 c, .int .i64 m] w fun r w' => r = .returned (rdT (fmP m a b c) (fmF m a b c)) ∧ Tidy w w' := by
  have hv : ([.int .u64 a, .int .u64 b, .int .u64 c, .int .i64 m].all (lt 0)) = true := rfl
  have T := tabY_ok conP1_ok
  have ka : decide (U a) = true := decide_eq_true ha
  have kb : decide (U b) = true := decide_eq_true hb
  have kc : decide (U c) = true := decide_eq_true hc
  have kab : decide (U a ∧ U b) = true := decide_eq_true ⟨ha, hb⟩
  have kic : decide (U (sS (prN a b) inf) ∧ U c) = true := decide_eq_true ⟨inf_U _, hc⟩
  have kE := kE_of a b c
  have ba := cl_bd a
  have bb := cl_bd b
  have bc := cl_bd c
  unfold fmP fmF
  by_cases hbd : badB a b = true
  · rw [if_pos hbd, if_pos hbd]
    exact fits_calls T (fm_bad a b c m) (okCons hbd (okL1 kab)) hv (by rfl) w
  · have hb0 : badB a b = false := by simpa using hbd
    rw [if_neg hbd, if_neg hbd]
    by_cases ha3 : 3 < cl a
    · rw [if_pos (.inl ha3), if_pos (.inl ha3)]
      by_cases a5 : cl a = 5
      · rw [if_pos (.inl a5)]
        exact fits_calls T (fm_a1 a b c m) (okCons (beq_t a5) (okCons ka (okCons (by decide) (okCons (decide_eq_true ha3) (okCons ka (okCons hb0 (okL1 kab))))))) hv (by rfl) w
      · by_cases b5 : cl b = 5
        · rw [if_pos (.inr (.inl b5))]
          exact fits_calls T (fm_a2 a b c m) (okCons (beq_t b5) (okCons kb (okCons (by decide) (okCons (beq_f (by omega)) (okCons ka (okCons (by decide) (okCons (decide_eq_true ha3) (okCons ka (okCons hb0 (okL1 kab)))))))))) hv (by rfl) w
        · by_cases c5 : cl c = 5
          · rw [if_pos (.inr (.inr c5))]
            exact fits_calls T (fm_a3 a b c m) (okCons (beq_t c5) (okCons kc (okCons (by decide) (okCons (beq_f (by omega)) (okCons kb (okCons (by decide) (okCons (beq_f (by omega)) (okCons ka (okCons (by decide) (okCons (decide_eq_true ha3) (okCons ka (okCons hb0 (okL1 kab))))))))))))) hv (by rfl) w
          · rw [if_neg (by omega)]
            exact fits_calls T (fm_a0 a b c m) (okCons (by decide) (okCons (beq_f (by omega)) (okCons kc (okCons (by decide) (okCons (beq_f (by omega)) (okCons kb (okCons (by decide) (okCons (beq_f (by omega)) (okCons ka (okCons (by decide) (okCons (decide_eq_true ha3) (okCons ka (okCons hb0 (okL1 kab)))))))))))))) hv (by rfl) w
    · by_cases hb3 : 3 < cl b
      · rw [if_pos (.inr (.inl hb3)), if_pos (.inr (.inl hb3))]
        by_cases b5 : cl b = 5
        · rw [if_pos (.inr (.inl b5))]
          exact fits_calls T (fm_b2 a b c m) (okCons (beq_t b5) (okCons kb (okCons (by decide) (okCons (beq_f (by omega)) (okCons ka (okCons (by decide) (okCons (decide_eq_true hb3) (okCons kb (okCons (decide_eq_false ha3) (okCons ka (okCons hb0 (okL1 kab)))))))))))) hv (by rfl) w
        · by_cases c5 : cl c = 5
          · rw [if_pos (.inr (.inr c5))]
            exact fits_calls T (fm_b3 a b c m) (okCons (beq_t c5) (okCons kc (okCons (by decide) (okCons (beq_f (by omega)) (okCons kb (okCons (by decide) (okCons (beq_f (by omega)) (okCons ka (okCons (by decide) (okCons (decide_eq_true hb3) (okCons kb (okCons (decide_eq_false ha3) (okCons ka (okCons hb0 (okL1 kab))))))))))))))) hv (by rfl) w
          · rw [if_neg (by omega)]
            exact fits_calls T (fm_b0 a b c m) (okCons (by decide) (okCons (beq_f (by omega)) (okCons kc (okCons (by decide) (okCons (beq_f (by omega)) (okCons kb (okCons (by decide) (okCons (beq_f (by omega)) (okCons ka (okCons (by decide) (okCons (decide_eq_true hb3) (okCons kb (okCons (decide_eq_false ha3) (okCons ka (okCons hb0 (okL1 kab)))))))))))))))) hv (by rfl) w
      · by_cases hc3 : 3 < cl c
        · rw [if_pos (.inr (.inr hc3)), if_pos (.inr (.inr hc3))]
          by_cases c5 : cl c = 5
          · rw [if_pos (.inr (.inr c5))]
            exact fits_calls T (fm_c3 a b c m) (okCons (beq_t c5) (okCons kc (okCons (by decide) (okCons (beq_f (by omega)) (okCons kb (okCons (by decide) (okCons (beq_f (by omega)) (okCons ka (okCons (by decide) (okCons (decide_eq_true hc3) (okCons kc (okCons (decide_eq_false hb3) (okCons kb (okCons (decide_eq_false ha3) (okCons ka (okCons hb0 (okL1 kab))))))))))))))))) hv (by rfl) w
          · rw [if_neg (by omega)]
            exact fits_calls T (fm_c0 a b c m) (okCons (by decide) (okCons (beq_f (by omega)) (okCons kc (okCons (by decide) (okCons (beq_f (by omega)) (okCons kb (okCons (by decide) (okCons (beq_f (by omega)) (okCons ka (okCons (by decide) (okCons (decide_eq_true hc3) (okCons kc (okCons (decide_eq_false hb3) (okCons kb (okCons (decide_eq_false ha3) (okCons ka (okCons hb0 (okL1 kab)))))))))))))))))) hv (by rfl) w
        · have hno : ¬ (3 < cl a ∨ 3 < cl b ∨ 3 < cl c) := by omega
          rw [if_neg hno, if_neg hno]
          by_cases ae : cl a = 3
          · rw [if_pos (.inl ae), if_pos (.inl ae)]
            exact fits_calls T (fm_ea a b c m) (okCons kic (okCons rfl (okCons kab (okCons (beq_t ae) (okCons ka (okCons (decide_eq_false hc3) (okCons kc (okCons (decide_eq_false hb3) (okCons kb (okCons (decide_eq_false ha3) (okCons ka (okCons hb0 (okL1 kab))))))))))))) hv (by rfl) w
          · by_cases be : cl b = 3
            · rw [if_pos (.inr be), if_pos (.inr be)]
              exact fits_calls T (fm_eb a b c m) (okCons kic (okCons rfl (okCons kab (okCons (beq_t be) (okCons kb (okCons (beq_f ae) (okCons ka (okCons (decide_eq_false hc3) (okCons kc (okCons (decide_eq_false hb3) (okCons kb (okCons (decide_eq_false ha3) (okCons ka (okCons hb0 (okL1 kab))))))))))))))) hv (by rfl) w
            · have hno2 : ¬ (cl a = 3 ∨ cl b = 3) := by omega
              rw [if_neg hno2, if_neg hno2]
              by_cases ce : cl c = 3
              · rw [if_pos ce, if_pos ce]
                exact fits_calls T (fm_ec a b c m) (okCons (beq_t ce) (okCons kc (okCons (beq_f be) (okCons kb (okCons (beq_f ae) (okCons ka (okCons (decide_eq_false hc3) (okCons kc (okCons (decide_eq_false hb3) (okCons kb (okCons (decide_eq_false ha3) (okCons ka (okCons hb0 (okL1 kab)))))))))))))) hv (by rfl) w
              · rw [if_neg ce, if_neg ce]
                have hf := fm_fin a b c m
                rw [fx_round] at hf
                exact fits_calls T hf (okCons (decide_eq_true (ofN_ok _)) (okCons kE (okCons (decide_eq_true ⟨by omega, by omega⟩) (okCons kab (okCons kE (okCons kE (okCons (decide_eq_true ⟨by omega, by omega⟩) (okCons kab (okCons kc (okCons (decide_eq_true (by omega)) (okCons kc (okCons (beq_f ce) (okCons kc (okCons (beq_f be) (okCons kb (okCons (beq_f ae) (okCons ka (okCons (decide_eq_false hc3) (okCons kc (okCons (decide_eq_false hb3) (okCons kb (okCons (decide_eq_false ha3) (okCons ka (okCons hb0 (okL1 kab))))))))))))))))))))))))) hv (by rfl) w
def gPF : Ans := fun vals s =>
  match vals with
  | [.int .u64 a, .int .u64 b, .int .u64 c, .int .i64 m] => some (rdT (fmP m a b c) (fmF m a b c), s, [(decide (U a ∧ U b ∧ U c), true)])
  | _ => none
theorem gPF_ok : AnsOk 27 gPF := by
  intro vals s v s' lg h hl w
  unfold gPF at h
  split at h
  · cases h
    obtain ⟨h1, h2, h3⟩ := of_decide_eq_true (hl _ (List.mem_singleton.2 rfl))
    exact pfma_calls _ _ _ _ h1 h2 h3 w
  · cases h
end Go.Proofs.Ytekebccjflilnaa
namespace Go.Proofs.Ytekebccjflilnaa
open Go.KRun Go.Wd Go.Pt Go.Rn
theorem sS_mag {n : Bool} {r : Int} (h0 : 0 ≤ r) (h1 : r < 9223372036854775808) : mag (sS n r) = r ∧ sgn (sS n r) = n ∧ U (sS n r) ∧ uV (sS n r) = uV r := by
  have e : ex (sS n r) = ex r ∧ fr (sS n r) = fr r := by unfold ex fr sS; split <;> omega
  refine ⟨by unfold mag sS; split <;> omega, ?_, by unfold U sS; split <;> omega, ?_⟩
  · cases n
    · simp only [sS, Bool.false_eq_true, if_false, sgn]; exact decide_eq_false (by omega)
    · simp only [sS, if_true, sgn]; exact decide_eq_true (by omega)
  · unfold uV xp sg; rw [e.1, e.2]
theorem bXor_ng {p : Int} (hp : U p) : bXor p 9223372036854775808 = ng p := bXor_sign hp
theorem ng_sS {n : Bool} {r : Int} (h0 : 0 ≤ r) (h1 : r < 9223372036854775808) : ng (sS n r) = sS (!n) r := by
  cases n <;> simp [sS, ng] <;> omega
theorem ng_ng {p : Int} (hp : U p) : ng (ng p) = p := by unfold ng U at *; omega
theorem nan_mag : mag 9221120237041090560 = 9221120237041090560 := by decide
end Go.Proofs.Ytekebccjflilnaa
