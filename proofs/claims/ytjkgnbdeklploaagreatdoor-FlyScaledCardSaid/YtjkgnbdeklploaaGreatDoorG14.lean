/-
  Con5, Con6, NumPr, PrA, PrB, PrC, GnB, SuM, PrM, RunS
-/
import Derived.Test.YtjkgnbdeklploaaGreatDoorG13
namespace Go.Proofs.YtjkgnbdeklploaaGreatDoor
open Go.KRun Go.Wd
set_option maxRecDepth 100000
def u1m : Value → Option Int
  | .int .u64 n => some n
  | _ => none
theorem u1m_spec {v : Value} {n : Int} (h : u1m v = some n) : v = u_ n := by
  unfold u1m at h
  split at h
  · cases h; rfl
  · cases h
def gMul : Ans := fun vals s =>
  match vals with
  | [x, y] =>
    match u1m x, u1m y with
    | some a, some b => some (.tuple #[u_ (a * b / 18446744073709551616), u_ (a * b % 18446744073709551616)], s, [(decide (word a ∧ word b), true)])
    | _, _ => none
  | _ => none
theorem gMul_ok : AnsOk 108 gMul := by
  intro vals s v s' lg h hl w
  unfold gMul at h
  split at h
  · split at h
    · rename_i a b ha hb
      cases h
      have h1 := hl _ (List.mem_singleton.2 rfl)
      simp only [decide_eq_true_eq] at h1
      rw [u1m_spec ha, u1m_spec hb]
      exact mul64_calls a b h1.1 h1.2 w
    · cases h
  · cases h
def conM : Con := alt 108 gMul conN
theorem conM_ok : ConOk conM := alt_ok Tryz.func108 rfl gMul_ok conN_ok
def pL (x y m : Int) : Int := Wd.ad (x * y % 18446744073709551616) m 0
def oA (x y c : Int) : Bool × Bool := (decide (0 ≤ x ∧ 0 ≤ y ∧ 0 ≤ c ∧ c ≤ 1), true)
theorem ma_fits (x y m c : Int) : Fits (reckon (tabOf Tryz.prog extY conM true) 3000 159 [u_ x, u_ y, u_ m, u_ c] [])
    (.tuple #[u_ (Wd.ad (pL x y m) c 0), u_ (IntKind.u64.wrap (IntKind.u64.wrap (x * y / 18446744073709551616 + ca (x * y % 18446744073709551616) m 0) + ca (pL x y m) c 0))])
    [oA (pL x y m) c 0, oA (x * y % 18446744073709551616) m 0, (decide (word x ∧ word y), true)] := ⟨by kernel_rfl, by kernel_rfl, by kernel_rfl, by kernel_rfl⟩
theorem ma_arith {x y : Int} (hx : word x) (hy : word y) : 0 ≤ x * y ∧ x * y ≤ 340282366920938463426481119284349108225 := by
  refine ⟨Int.mul_nonneg hx.1 hy.1, ?_⟩
  have := Int.mul_le_mul (show x ≤ 18446744073709551615 by omega) (show y ≤ 18446744073709551615 by omega) hy.1 (by omega)
  omega
theorem ma_calls (x y m c : Int) (hx : word x) (hy : word y) (hm : word m) (hc : word c) (w : World) : Calls Tryz.prog 159 #[u_ x, u_ y, u_ m, u_ c] w fun e w' =>
    e = .returned (.tuple #[u_ ((x * y + m + c) % 18446744073709551616), u_ ((x * y + m + c) / 18446744073709551616)]) ∧ Tidy w w' := by
  have bd := ma_arith hx hy
  have h := fits_calls (tabY_ok conM_ok) (ma_fits x y m c) (okCons (decide_eq_true (by unfold pL Wd.ad; omega)) (okCons (decide_eq_true (by omega)) (okL1 (decide_eq_true ⟨hx, hy⟩)))) (by rfl) (by rfl) w
  have e1 : Wd.ad (pL x y m) c 0 = (x * y + m + c) % 18446744073709551616 := by unfold pL Wd.ad; omega
  have e2 : IntKind.u64.wrap (IntKind.u64.wrap (x * y / 18446744073709551616 + ca (x * y % 18446744073709551616) m 0) + ca (pL x y m) c 0) = (x * y + m + c) / 18446744073709551616 := by
    unfold pL ca Wd.ad
    rw [wrap_u64, wrap_u64]
    omega
  rw [e1, e2] at h
  exact h
def gMA : Ans := fun vals s =>
  match vals with
  | [x, y, m, c] =>
    match u1m x, u1m y, u1m m, u1m c with
    | some x, some y, some m, some c => some (.tuple #[u_ ((x * y + m + c) % 18446744073709551616), u_ ((x * y + m + c) / 18446744073709551616)], s, [(decide (word x ∧ word y ∧ word m ∧ word c), true)])
    | _, _, _, _ => none
  | _ => none
theorem gMA_ok : AnsOk 159 gMA := by
  intro vals s v s' lg h hl w
  unfold gMA at h
  split at h
  · split at h
    · rename_i x y m c hx hy hm hc
      cases h
      have h1 := hl _ (List.mem_singleton.2 rfl)
      simp only [decide_eq_true_eq] at h1
      rw [u1m_spec hx, u1m_spec hy, u1m_spec hm, u1m_spec hc]
      exact ma_calls _ _ _ _ h1.1 h1.2.1 h1.2.2.1 h1.2.2.2 w
    · cases h
  · cases h
def conMA : Con := alt 159 gMA conN
theorem conMA_ok : ConOk conMA := alt_ok Tryz.func159 rfl gMA_ok conN_ok
/-! ### a row of the product, and the product -/
def lo (x y z c : Int) : Int := (x * y + z + c) % 18446744073709551616
def hi (x y z c : Int) : Int := (x * y + z + c) / 18446744073709551616
def rowF (x : Int) : List Int → List Int → Int → List Int
  | y :: ys, z :: zs, c => lo x y z c :: rowF x ys zs (hi x y z c)
  | _, _, c => [c]
def jl (j : Int) : Bool × Bool := (decide (j < 4), true)
def je : Bool × Bool := (decide ((4 : Int) < 4), false)
def wl (x y z c : Int) : Bool × Bool := (decide (word x ∧ word y ∧ word z ∧ word c), true)
def rowG (x : Int) : List Int → List Int → Int → Int → Log → Log
  | y :: ys, z :: zs, c, j, L => rowG x ys zs (hi x y z c) (j + 1) (wl x y z c :: jl j :: L)
  | _, _, _, _, L => je :: L
def rowDm (d : Bool) (x : Int) (ys zs : List Int) : List Int :=
  match d with
  | true => zs ++ [0]
  | false => rowF x ys zs 0
def rowE (d : Bool) (i x : Int) (ys zs : List Int) (L : Log) : Log :=
  match d with
  | true => (x == 0, true) :: jl i :: L
  | false => rowG x ys zs 0 0 ((x == 0, false) :: jl i :: L)
def ysOf (y : W4) : List Int := [y.a, y.b, y.c, y.d]
def r0 (d : Bool) (x y : W4) : List Int := rowDm d x.a (ysOf y) [0, 0, 0, 0]
def r1 (d e : Bool) (x y : W4) : List Int := rowDm e x.b (ysOf y) (r0 d x y).tail
def r2 (d e f : Bool) (x y : W4) : List Int := rowDm f x.c (ysOf y) (r1 d e x y).tail
def r3 (d e f g : Bool) (x y : W4) : List Int := rowDm g x.d (ysOf y) (r2 d e f x y).tail
def hd (l : List Int) : Int := l.headD 0
def w4T (l : List Int) : W4 := ⟨l.getD 0 0, l.getD 1 0, l.getD 2 0, l.getD 3 0⟩
def mulLog (d e f g : Bool) (x y : W4) : Log := je :: rowE g 3 x.d (ysOf y) (r2 d e f x y).tail (rowE f 2 x.c (ysOf y) (r1 d e x y).tail (rowE e 1 x.b (ysOf y) (r0 d x y).tail (rowE d 0 x.a (ysOf y) [0, 0, 0, 0] [])))
def scr (d : Bool) (s : List Dec) : List Dec :=
  match d with
  | true => cmp true :: cmp true :: s
  | false => cmp true :: cmp false :: cmp true :: cmp true :: cmp true :: cmp true :: cmp false :: s
def mulV (d e f g : Bool) (x y : W4) : Value := .tuple #[vW ⟨hd (r0 d x y), hd (r1 d e x y), hd (r2 d e f x y), hd (r3 d e f g x y)⟩, vW (w4T (r3 d e f g x y).tail)]
theorem mul_fits (x y : W4) (d e f g : Bool) : Fits (reckon (tabOf Tryz.prog extY conMA true) 3000 153 [vW x, vW y] (scr d (scr e (scr f (scr g [cmp false]))))) (mulV d e f g x y) (mulLog d e f g x y) := by
  cases d <;> cases e <;> cases f <;> cases g <;> exact ⟨by kernel_rfl, by kernel_rfl, by kernel_rfl, by kernel_rfl⟩
def vB : List Int → Int
  | [] => 0
  | d :: ds => d + 18446744073709551616 * vB ds
def words (l : List Int) : Prop := ∀ d ∈ l, word d
theorem lohi {x y z c : Int} (hx : word x) (hy : word y) (hz : word z) (hc : word c) : word (lo x y z c) ∧ word (hi x y z c) ∧ lo x y z c + 18446744073709551616 * hi x y z c = x * y + z + c := by
  have bd := ma_arith hx hy
  unfold lo hi word at *
  generalize x * y = p at *
  omega
theorem row_spec {x : Int} (hx : word x) : ∀ (ys zs : List Int) (c j : Int) (L : Log), words ys → words zs → word c → ys.length = zs.length → 0 ≤ j → j + ys.length ≤ 4 → okLog L →
    words (rowF x ys zs c) ∧ (rowF x ys zs c).length = ys.length + 1 ∧ vB (rowF x ys zs c) = vB zs + x * vB ys + c ∧ okLog (rowG x ys zs c j L)
  | [], [], c, j, L, _, _, hc, _, _, _, hL => by
    refine ⟨fun d hd => ?_, rfl, by simp [rowF, vB], okCons (by rfl) hL⟩
    simp only [rowF, List.mem_singleton] at hd
    rw [hd]; exact hc
  | y :: ys, z :: zs, c, j, L, hy, hz, hc, hl, h0, hj, hL => by
    have y1 := hy y List.mem_cons_self
    have z1 := hz z List.mem_cons_self
    obtain ⟨e1, e2, e3⟩ := lohi hx y1 z1 hc
    simp only [List.length_cons] at hl hj
    obtain ⟨g1, g2, g3, g4⟩ := row_spec hx ys zs (hi x y z c) (j + 1) (wl x y z c :: jl j :: L) (fun d hd => hy d (List.mem_cons_of_mem _ hd)) (fun d hd => hz d (List.mem_cons_of_mem _ hd)) e2 (by omega) (by omega) (by omega)
      (okCons (decide_eq_true ⟨hx, y1, z1, hc⟩) (okCons (decide_eq_true (by omega : j < 4)) hL))
    refine ⟨fun d hd => ?_, by simp only [rowF, List.length_cons, g2], ?_, g4⟩
    · simp only [rowF] at hd
      rcases List.mem_cons.1 hd with rfl | hd
      · exact e1
      · exact g1 d hd
    · simp only [rowF, vB]
      rw [g3]
      have : x * (y + 18446744073709551616 * vB ys) = x * y + 18446744073709551616 * (x * vB ys) := by rw [Int.mul_add, Int.mul_left_comm]
      rw [this]
      generalize x * vB ys = q at *
      generalize x * y = p at *
      omega
  | [], _ :: _, _, _, _, _, _, _, hl, _, _, _ => by simp at hl
  | _ :: _, [], _, _, _, _, _, _, hl, _, _, _ => by simp at hl
theorem vB_snoc0 : ∀ l : List Int, vB (l ++ [0]) = vB l
  | [] => rfl
  | d :: ds => by simp only [List.cons_append, vB, vB_snoc0 ds]
theorem rowDm_spec {x i : Int} (hx : word x) (hi : i < 4) {ys zs : List Int} (hy : words ys) (hz : words zs) (ly : ys.length = 4) (lz : zs.length = 4) {L : Log} (hL : okLog L) :
    ∃ h t, rowDm (x == 0) x ys zs = h :: t ∧ word h ∧ words t ∧ t.length = 4 ∧ h + 18446744073709551616 * vB t = vB zs + x * vB ys ∧ okLog (rowE (x == 0) i x ys zs L) := by
  have key : words (rowDm (x == 0) x ys zs) ∧ (rowDm (x == 0) x ys zs).length = 5 ∧ vB (rowDm (x == 0) x ys zs) = vB zs + x * vB ys ∧ okLog (rowE (x == 0) i x ys zs L) := by
    have ji : (jl i).1 = (jl i).2 := decide_eq_true hi
    by_cases h : x = 0
    · have hb : (x == 0) = true := beq_iff_eq.2 h
      rw [hb]
      refine ⟨fun d hd => ?_, by simp [rowDm, lz], ?_, okCons hb (okCons ji hL)⟩
      · simp only [rowDm] at hd
        rcases List.mem_append.1 hd with hd | hd
        · exact hz d hd
        · rw [List.mem_singleton.1 hd]; unfold word; omega
      · simp only [rowDm, vB_snoc0]
        rw [h]; omega
    · have hb : (x == 0) = false := beq_eq_false_iff_ne.2 h
      rw [hb]
      obtain ⟨g1, g2, g3, g4⟩ := row_spec hx ys zs 0 0 ((x == 0, false) :: jl i :: L) hy hz (by unfold word; omega) (by omega) (by omega) (by omega) (okCons hb (okCons ji hL))
      exact ⟨g1, by simp only [rowDm]; omega, by simp only [rowDm]; omega, g4⟩
  obtain ⟨k1, k2, k3, k4⟩ := key
  match hr : rowDm (x == 0) x ys zs, k1, k2, k3 with
  | h :: t, k1, k2, k3 =>
    exact ⟨h, t, rfl, k1 h List.mem_cons_self, fun d hd => k1 d (List.mem_cons_of_mem _ hd), by simpa using k2, k3, k4⟩
def mulV4 (x y : W4) : Value := .tuple #[vW (W4.of (x.val * y.val)), vW (W4.of (x.val * y.val / 115792089237316195423570985008687907853269984665640564039457584007913129639936))]
theorem ysOf_val (y : W4) : vB (ysOf y) = y.val := by unfold ysOf W4.val; simp only [vB]; omega
theorem mul_calls (x y : W4) (hx : x.ok) (hy : y.ok) (w : World) : Calls Tryz.prog 153 #[vW x, vW y] w fun e w' => e = .returned (mulV4 x y) ∧ Tidy w w' := by
  obtain ⟨x0, x1, x2, x3⟩ := hx
  have wy : words (ysOf y) := fun d hd => by
    obtain ⟨y0, y1, y2, y3⟩ := hy
    unfold ysOf at hd
    simp only [List.mem_cons, List.not_mem_nil, or_false] at hd
    rcases hd with rfl | rfl | rfl | rfl
    · exact y0
    · exact y1
    · exact y2
    · exact y3
  have wz : words [0, 0, 0, 0] := fun d hd => by
    simp only [List.mem_cons, List.not_mem_nil, or_false, or_self] at hd
    rw [hd]; unfold word; omega
  obtain ⟨h0, t0, e0, a0, b0, l0, v0, g0⟩ := rowDm_spec (x := x.a) (i := 0) x0 (by omega) wy wz rfl rfl okNil
  obtain ⟨h1, t1, e1, a1, b1, l1, v1, g1⟩ := rowDm_spec (x := x.b) (i := 1) x1 (by omega) wy b0 rfl l0 g0
  obtain ⟨h2, t2, e2, a2, b2, l2, v2, g2⟩ := rowDm_spec (x := x.c) (i := 2) x2 (by omega) wy b1 rfl l1 g1
  obtain ⟨h3, t3, e3, a3, b3, l3, v3, g3⟩ := rowDm_spec (x := x.d) (i := 3) x3 (by omega) wy b2 rfl l2 g2
  have E0 : r0 (x.a == 0) x y = h0 :: t0 := e0
  have E1 : r1 (x.a == 0) (x.b == 0) x y = h1 :: t1 := by unfold r1; rw [E0]; exact e1
  have E2 : r2 (x.a == 0) (x.b == 0) (x.c == 0) x y = h2 :: t2 := by unfold r2; rw [E1]; exact e2
  have E3 : r3 (x.a == 0) (x.b == 0) (x.c == 0) (x.d == 0) x y = h3 :: t3 := by unfold r3; rw [E2]; exact e3
  have h := fits_calls (tabY_ok conMA_ok) (mul_fits x y (x.a == 0) (x.b == 0) (x.c == 0) (x.d == 0)) (by
    unfold mulLog
    rw [E0, E1, E2]
    exact okCons (by rfl) g3) (by rfl) (by rfl) w
  have hv : mulV (x.a == 0) (x.b == 0) (x.c == 0) (x.d == 0) x y = mulV4 x y := by
    unfold mulV mulV4
    rw [E0, E1, E2, E3]
    match t3, l3, b3, v3 with
    | [q0, q1, q2, q3], _, b3, v3 =>
      simp only [hd, List.headD_cons, List.tail_cons, w4T, List.getD_cons_zero, List.getD_cons_succ]
      have ok1 : (⟨h0, h1, h2, h3⟩ : W4).ok := ⟨a0, a1, a2, a3⟩
      have ok2 : (⟨q0, q1, q2, q3⟩ : W4).ok := ⟨b3 q0 (by simp), b3 q1 (by simp), b3 q2 (by simp), b3 q3 (by simp)⟩
      have key : x.val * y.val = (⟨h0, h1, h2, h3⟩ : W4).val + 115792089237316195423570985008687907853269984665640564039457584007913129639936 * (⟨q0, q1, q2, q3⟩ : W4).val := by
        rw [ysOf_val] at v0 v1 v2 v3
        rw [val_mul x y.val]
        generalize x.a * y.val = p0 at *
        generalize x.b * y.val = p1 at *
        generalize x.c * y.val = p2 at *
        generalize x.d * y.val = p3 at *
        simp only [vB] at v0 v1 v2 v3
        unfold W4.val
        dsimp only
        omega
      have bd1 := W4.val_bd ok1
      have eL : W4.of (x.val * y.val) = ⟨h0, h1, h2, h3⟩ := W4.of_eq ok1 key
      have eH : x.val * y.val / 115792089237316195423570985008687907853269984665640564039457584007913129639936 = (⟨q0, q1, q2, q3⟩ : W4).val := by rw [key]; omega
      rw [eL, eH, W4.of_val ok2]
  rw [hv] at h
  exact h
end Go.Proofs.YtjkgnbdeklploaaGreatDoor
namespace Go.Rn
open Go.Nt Go.Wd Go.Pt
/-- a product's sign, size and power -/
def prN (a b : Int) : Bool := sgn a != sgn b
def prV (a b : Int) : Nat := (sg a).toNat * (sg b).toNat
def prE (a b : Int) : Int := xp a + xp b
theorem prE_bd (a b : Int) : -2148 ≤ prE a b ∧ prE a b ≤ 1944 := by
  have h1 := xp_bd a
  have h2 := xp_bd b
  unfold prE
  omega
theorem prV_lt (a b : Int) : prV a b < 81129638414606681695789005144064 := by
  have h1 := sg_lt a
  have h2 := sg_lt b
  have := Nat.mul_le_mul (show (sg a).toNat ≤ 9007199254740991 by omega) (show (sg b).toNat ≤ 9007199254740991 by omega)
  unfold prV
  omega
theorem may_prod (a b : Int) : May (prE a b) (prV a b) := by
  have h1 := prE_bd a b
  have h2 := prV_lt a b
  refine ⟨?_, by omega, by omega⟩
  have : (2 : Nat) ^ 128 = 340282366920938463463374607431768211456 := rfl
  omega
/-- the product, rounded -/
def mlP (m a b : Int) : Int := rnP m (prN a b) (prV a b) (prE a b)
def mlF (m a b : Int) : Int := rnF m (prN a b) (prV a b) (prE a b)
/-- the product and a third number, in units of 2^-2148; its sign; rounded -/
def fsI (a b c : Int) : Int := smI (-2148) (prN a b) (prE a b) (prV a b) (sgn c) (xp c) (sg c).toNat
def fsN (m a b c : Int) : Bool := sgS m (prN a b) (sgn c) (fsI a b c)
def fsP (m a b c : Int) : Int := rnP m (fsN m a b c) (fsI a b c).natAbs (-2148)
def fsF (m a b c : Int) : Int := rnF m (fsN m a b c) (fsI a b c).natAbs (-2148)
theorem fs_bd (m a b c : Int) : 0 ≤ fsP m a b c ∧ fsP m a b c ≤ 9218868437227405312 := rnP_bd _ _ _ _
/-! ### with nothing added -/
/-! ### times 1 -/
/-! ### the other sign -/
/-! ### a pattern that was rounded, as a number -/
theorem pat_num {e : Int} {q : Nat} (he : -1074 ≤ e) (hq : q ≤ 9007199254740992) (hlo : e = -1074 ∨ 4503599627370496 ≤ q) (hb : (e + 1074) * 4503599627370496 + (q : Int) < 9218868437227405312) :
    uV ((e + 1074) * 4503599627370496 + (q : Int)) = q * 2 ^ (e + 1074).toNat := by
  obtain ⟨j, hj⟩ : ∃ j : Nat, e = (j : Int) - 1074 := ⟨(e + 1074).toNat, by omega⟩
  have ej : (e + 1074).toNat = j := by omega
  have ej' : e + 1074 = (j : Int) := by omega
  rw [ej, ej']
  rw [ej'] at hb
  clear ej ej'
  unfold uV szF xp sg
  by_cases c0 : q < 4503599627370496
  · have j0 : j = 0 := by omega
    subst j0
    have ee : ex (((0 : Nat) : Int) * 4503599627370496 + (q : Int)) = 0 := by unfold ex; omega
    have ef : fr (((0 : Nat) : Int) * 4503599627370496 + (q : Int)) = (q : Int) := by unfold fr; omega
    rw [ee, ef]
    simp
  · by_cases c1 : q = 9007199254740992
    · have ee : ex ((j : Int) * 4503599627370496 + (q : Int)) = (j : Int) + 2 := by unfold ex; omega
      have ef : fr ((j : Int) * 4503599627370496 + (q : Int)) = 0 := by unfold fr; omega
      rw [ee, ef, if_neg (by omega), if_neg (by omega), if_neg (by omega), if_neg (by omega)]
      have e1 : ((j : Int) + 2 - 1075 - -1074).toNat = j + 1 := by omega
      rw [e1, c1, Nat.pow_succ]
      have e2 : ((0 : Int) + 4503599627370496).toNat = 4503599627370496 := rfl
      rw [e2]
      omega
    · have ee : ex ((j : Int) * 4503599627370496 + (q : Int)) = (j : Int) + 1 := by unfold ex; omega
      have ef : fr ((j : Int) * 4503599627370496 + (q : Int)) = (q : Int) - 4503599627370496 := by unfold fr; omega
      rw [ee, ef, if_neg (by omega), if_neg (by omega), if_neg (by omega), if_neg (by omega)]
      have e1 : ((j : Int) + 1 - 1075 - -1074).toNat = j := by omega
      have e2 : ((q : Int) - 4503599627370496 + 4503599627370496).toNat = q := by omega
      rw [e1, e2]
/-- what was rounded, and is finite -/
theorem rn_num {m : Int} {n : Bool} {T : Nat} {E : Int} (hT : T ≠ 0) (h : rnF m n T E = 0 ∨ rnF m n T E = 16 ∨ rnF m n T E = 24) :
    p0 m n T E < 9218868437227405312 ∧ rnP m n T E = p0 m n T E ∧ uV (rnP m n T E) = toQ m n T E (lowE T E) * 2 ^ (lowE T E + 1074).toNat ∧ (rnF m n T E = 0 ↔ toL T E (lowE T E) = false) := by
  have hb : p0 m n T E < 9218868437227405312 := by
    unfold rnF at h
    rw [if_neg hT] at h
    by_cases hc : 9218868437227405312 ≤ p0 m n T E
    · rw [if_pos hc] at h; omega
    · omega
  have hp : rnP m n T E = p0 m n T E := by unfold rnP; rw [if_neg hT, if_neg (by omega)]
  have hlo : lowE T E = -1074 ∨ 4503599627370496 ≤ toQ m n T E (lowE T E) := by
    by_cases h1 : lowE T E = -1074
    · exact .inl h1
    · right
      refine low_lo hT ?_
      unfold lowE at h1
      split at h1 <;> omega
  refine ⟨hb, hp, ?_, ?_⟩
  · rw [hp]
    exact pat_num (lowE_ge T E) (low_hi m n T E) hlo hb
  · unfold rnF
    rw [if_neg hT, if_neg (by omega)]
    cases toL T E (lowE T E) with
    | false => simp
    | true =>
      rw [if_pos rfl]
      split <;> simp
/-! ### what rounding to the nearest left -/
end Go.Rn
namespace Go.Proofs.YtjkgnbdeklploaaGreatDoor
open Go.KRun Go.Wd Go.Pt Go.Rn
set_option maxRecDepth 100000
def conP0 : Con := alt 153 (g2 (plain2 mulV4)) (alt 91 gSA conA0)
theorem conP0_ok : ConOk conP0 := alt_ok Tryz.func153 rfl (plain2_ok mul_calls) (alt_ok Tryz.func91 rfl gSA_ok conA0_ok)
/-! ### 0 times Endless -/
def badB (a b : Int) : Bool := decide ((cl a = 0 ∧ cl b = 3) ∨ (cl a = 3 ∧ cl b = 0))
theorem nb_tt (a b : Int) : Fits (reckon (tabOf Tryz.prog extY conP0 true) 300 132 [.int .u64 a, .int .u64 b] [cmp true, cmp true]) (.bool true) [(cl b == 3, true), lU b, (cl a == 0, true), lU a] := ⟨by kernel_rfl, by kernel_rfl, by kernel_rfl, by kernel_rfl⟩
theorem nb_tff (a b : Int) : Fits (reckon (tabOf Tryz.prog extY conP0 true) 300 132 [.int .u64 a, .int .u64 b] [cmp true, cmp false, cmp false]) (.bool false) [(cl a == 3, false), lU a, (cl b == 3, false), lU b, (cl a == 0, true), lU a] := ⟨by kernel_rfl, by kernel_rfl, by kernel_rfl, by kernel_rfl⟩
theorem nb_ff (a b : Int) : Fits (reckon (tabOf Tryz.prog extY conP0 true) 300 132 [.int .u64 a, .int .u64 b] [cmp false, cmp false]) (.bool false) [(cl a == 3, false), lU a, (cl a == 0, false), lU a] := ⟨by kernel_rfl, by kernel_rfl, by kernel_rfl, by kernel_rfl⟩
theorem nb_ftt (a b : Int) : Fits (reckon (tabOf Tryz.prog extY conP0 true) 300 132 [.int .u64 a, .int .u64 b] [cmp false, cmp true, cmp true]) (.bool true) [(cl b == 0, true), lU b, (cl a == 3, true), lU a, (cl a == 0, false), lU a] := ⟨by kernel_rfl, by kernel_rfl, by kernel_rfl, by kernel_rfl⟩
theorem nb_ftf (a b : Int) : Fits (reckon (tabOf Tryz.prog extY conP0 true) 300 132 [.int .u64 a, .int .u64 b] [cmp false, cmp true, cmp false]) (.bool false) [(cl b == 0, false), lU b, (cl a == 3, true), lU a, (cl a == 0, false), lU a] := ⟨by kernel_rfl, by kernel_rfl, by kernel_rfl, by kernel_rfl⟩
theorem nb_calls (a b : Int) (ha : U a) (hb : U b) (w : World) : Calls Tryz.prog 132 #[.int .u64 a, .int .u64 b] w fun r w' => r = .returned (.bool (badB a b)) ∧ Tidy w w' := by
  have hv : ([.int .u64 a, .int .u64 b].all (lt 0)) = true := rfl
  have ka : decide (U a) = true := decide_eq_true ha
  have kb : decide (U b) = true := decide_eq_true hb
  by_cases h0 : cl a = 0
  · by_cases h3 : cl b = 3
    · rw [show badB a b = true from decide_eq_true (.inl ⟨h0, h3⟩)]
      exact fits_calls (tabY_ok conP0_ok) (nb_tt a b) (okCons (beq_t h3) (okCons kb (okCons (beq_t h0) (okL1 ka)))) hv (by rfl) w
    · rw [show badB a b = false from decide_eq_false (by omega)]
      exact fits_calls (tabY_ok conP0_ok) (nb_tff a b) (okCons (beq_f (by omega)) (okCons ka (okCons (beq_f h3) (okCons kb (okCons (beq_t h0) (okL1 ka)))))) hv (by rfl) w
  · by_cases h3 : cl a = 3
    · by_cases hz : cl b = 0
      · rw [show badB a b = true from decide_eq_true (.inr ⟨h3, hz⟩)]
        exact fits_calls (tabY_ok conP0_ok) (nb_ftt a b) (okCons (beq_t hz) (okCons kb (okCons (beq_t h3) (okCons ka (okCons (beq_f h0) (okL1 ka)))))) hv (by rfl) w
      · rw [show badB a b = false from decide_eq_false (by omega)]
        exact fits_calls (tabY_ok conP0_ok) (nb_ftf a b) (okCons (beq_f hz) (okCons kb (okCons (beq_t h3) (okCons ka (okCons (beq_f h0) (okL1 ka)))))) hv (by rfl) w
    · rw [show badB a b = false from decide_eq_false (by omega)]
      exact fits_calls (tabY_ok conP0_ok) (nb_ff a b) (okCons (beq_f h3) (okCons ka (okCons (beq_f h0) (okL1 ka)))) hv (by rfl) w
/-! ### Endless, with a product's sign -/
theorem xor_top {a b : Int} (ha : U a) (hb : U b) : U (bXor a b) ∧ bAnd (bXor a b) 9223372036854775808 = if prN a b = true then 9223372036854775808 else 0 := by
  obtain ⟨A, rfl⟩ := Int.eq_ofNat_of_zero_le ha.1
  obtain ⟨B, rfl⟩ := Int.eq_ofNat_of_zero_le hb.1
  have h1 : A < 2 ^ 64 := by have := ha.2; omega
  have h2 : B < 2 ^ 64 := by have := hb.2; omega
  have hx : A ^^^ B < 2 ^ 64 := Nat.xor_lt_two_pow h1 h2
  have e : bXor (A : Int) (B : Int) = ((A ^^^ B : Nat) : Int) := by
    unfold bXor
    rw [back, BitVec.toNat_xor, ofU (by omega), ofU (by omega)]
  have hU : U (bXor (A : Int) (B : Int)) := by rw [e]; exact ⟨by omega, by omega⟩
  refine ⟨hU, ?_⟩
  rw [bAnd_sign hU, e]
  have hd : (A ^^^ B) / 2 ^ 63 = A / 2 ^ 63 ^^^ B / 2 ^ 63 := Nat.xor_div_two_pow
  have a1 : A / 2 ^ 63 < 2 := by omega
  have b1 : B / 2 ^ 63 < 2 := by omega
  have hA : sgn (A : Int) = decide (A / 2 ^ 63 = 1) := by
    unfold sgn
    by_cases h : A / 2 ^ 63 = 1
    · rw [decide_eq_true h]; exact decide_eq_true (by omega)
    · rw [decide_eq_false h]; exact decide_eq_false (by omega)
  have hB : sgn (B : Int) = decide (B / 2 ^ 63 = 1) := by
    unfold sgn
    by_cases h : B / 2 ^ 63 = 1
    · rw [decide_eq_true h]; exact decide_eq_true (by omega)
    · rw [decide_eq_false h]; exact decide_eq_false (by omega)
  have e2 : ((A ^^^ B : Nat) : Int) / 9223372036854775808 = ((A / 2 ^ 63 ^^^ B / 2 ^ 63 : Nat) : Int) := by rw [← hd]; omega
  rw [e2]
  unfold prN
  rw [hA, hB]
  generalize A / 2 ^ 63 = x at *
  generalize B / 2 ^ 63 = y at *
  have hx : x = 0 ∨ x = 1 := by omega
  have hy : y = 0 ∨ y = 1 := by omega
  rcases hx with rfl | rfl <;> rcases hy with rfl | rfl <;> decide
def inf : Int := 9218868437227405312
theorem en_fits (a b : Int) : Fits (reckon (tabOf Tryz.prog extY conP0 true) 300 135 [.int .u64 a, .int .u64 b] []) (.int .u64 (bOr (bNot 9218868437227405312 9223372036854775808) (bAnd (bXor a b) 9223372036854775808))) [] := ⟨by kernel_rfl, by kernel_rfl, by kernel_rfl, by kernel_rfl⟩
theorem en_eq {a b : Int} (ha : U a) (hb : U b) : bOr (bNot 9218868437227405312 9223372036854775808) (bAnd (bXor a b) 9223372036854775808) = sS (prN a b) inf := by
  rw [(xor_top ha hb).2]
  cases prN a b <;> decide
theorem en_calls (a b : Int) (ha : U a) (hb : U b) (w : World) : Calls Tryz.prog 135 #[.int .u64 a, .int .u64 b] w fun r w' => r = .returned (.int .u64 (sS (prN a b) inf)) ∧ Tidy w w' := by
  have := fits_calls (tabY_ok conP0_ok) (en_fits a b) (fun x hx => by cases hx) (by rfl) (by rfl) w
  rw [en_eq ha hb] at this
  exact this
/-! ### the exact product -/
theorem xa_fits (a b : Int) : Fits (reckon (tabOf Tryz.prog extY conP0 true) 300 136 [.int .u64 a, .int .u64 b] [cmp true, cmp true]) (vN (prN a b) (IntKind.i64.wrap (xp a + xp b)) (W4.of ((wSg a).val * (wSg b).val)) false) [(decide ((wSg a).ok ∧ (wSg b).ok), true), lU b, (decide (cl b ≤ 2), true), lU b, lU a, (decide (cl a ≤ 2), true), lU a] := ⟨by kernel_rfl, by kernel_rfl, by kernel_rfl, by kernel_rfl⟩
def vPx (a b : Int) : Value := vN (prN a b) (prE a b) (ofN (prV a b)) false
def finB (a b : Int) : Bool := decide (cl a ≤ 2 ∧ cl b ≤ 2)
theorem xa_calls (a b : Int) (ha : U a) (hb : U b) (h : finB a b = true) (w : World) : Calls Tryz.prog 136 #[.int .u64 a, .int .u64 b] w fun r w' => r = .returned (vPx a b) ∧ Tidy w w' := by
  obtain ⟨ca, cb⟩ := of_decide_eq_true h
  have ka : decide (U a) = true := decide_eq_true ha
  have kb : decide (U b) = true := decide_eq_true hb
  have hE := prE_bd a b
  have e1 : IntKind.i64.wrap (xp a + xp b) = prE a b := wrapI' ⟨by unfold prE at hE; omega, by unfold prE at hE; omega⟩
  have e2 : W4.of ((wSg a).val * (wSg b).val) = ofN (prV a b) := by
    unfold ofN prV
    rw [W4.nat_val (wSg_ok a), W4.nat_val (wSg_ok b), wSg_nat, wSg_nat, Int.natCast_mul]
  have := fits_calls (tabY_ok conP0_ok) (xa_fits a b) (okCons (decide_eq_true ⟨wSg_ok a, wSg_ok b⟩) (okCons kb (okCons (decide_eq_true cb) (okCons kb (okCons ka (okCons (decide_eq_true ca) (okL1 ka))))))) (by rfl) (by rfl) w
  rw [e1, e2] at this
  exact this
def conP1 : Con := alt 132 (gUUb badB) (alt 135 (gUU (fun a b => .int .u64 (sS (prN a b) inf)) (fun _ _ => true)) (alt 136 (gUU vPx finB) conP0))
theorem conP1_ok : ConOk conP1 := alt_ok Tryz.func132 rfl (gUUb_ok nb_calls) (alt_ok Tryz.func135 rfl (gUU_ok fun a b ha hb _ w => en_calls a b ha hb w) (alt_ok Tryz.func136 rfl (gUU_ok xa_calls) conP0_ok))
/-- what Mul answers -/
def muP (m a b : Int) : Int := if badB a b = true then 9221120237041090560 else if 3 < cl a ∨ 3 < cl b then 9221120237041090560 else if cl a = 3 ∨ cl b = 3 then sS (prN a b) inf else sS (prN a b) (mlP m a b)
def muF (m a b : Int) : Int := if badB a b = true then 1 else if 3 < cl a ∨ 3 < cl b then (if cl a = 5 ∨ cl b = 5 then 1 else 0) else if cl a = 3 ∨ cl b = 3 then 0 else mlF m a b
theorem prV_256 (a b : Int) : prV a b < 2 ^ 256 := by
  have := prV_lt a b
  exact Nat.lt_trans this (by decide)
theorem fm_bad (a b c m : Int) : Fits (reckon (tabOf Tryz.prog extY conP1 true) 300 109 [.int .u64 a, .int .u64 b, .int .u64 c, .int .i64 m] [cmp true]) (rdT 9221120237041090560 1) [(badB a b, true), (decide (U a ∧ U b), true)] := ⟨by kernel_rfl, by kernel_rfl, by kernel_rfl, by kernel_rfl⟩
theorem fm_a1 (a b c m : Int) : Fits (reckon (tabOf Tryz.prog extY conP1 true) 300 109 [.int .u64 a, .int .u64 b, .int .u64 c, .int .i64 m] [cmp false, cmp true, cmp true, cmp true]) (rdT 9221120237041090560 1) [(cl a == 5, true), lU a, (decide ((0 : Int) < ((3 : Nat) : Int)), true), (decide (cl a > 3), true), lU a, (badB a b, false), (decide (U a ∧ U b), true)] := ⟨by kernel_rfl, by kernel_rfl, by kernel_rfl, by kernel_rfl⟩
theorem fm_a2 (a b c m : Int) : Fits (reckon (tabOf Tryz.prog extY conP1 true) 300 109 [.int .u64 a, .int .u64 b, .int .u64 c, .int .i64 m] [cmp false, cmp true, cmp true, cmp false, cmp true, cmp true]) (rdT 9221120237041090560 1) [(cl b == 5, true), lU b, (decide (IntKind.i64.wrap (0 + 1) < ((3 : Nat) : Int)), true), (cl a == 5, false), lU a, (decide ((0 : Int) < ((3 : Nat) : Int)), true), (decide (cl a > 3), true), lU a, (badB a b, false), (decide (U a ∧ U b), true)] := ⟨by kernel_rfl, by kernel_rfl, by kernel_rfl, by kernel_rfl⟩
theorem fm_a3 (a b c m : Int) : Fits (reckon (tabOf Tryz.prog extY conP1 true) 300 109 [.int .u64 a, .int .u64 b, .int .u64 c, .int .i64 m] [cmp false, cmp true, cmp true, cmp false, cmp true, cmp false, cmp true, cmp true]) (rdT 9221120237041090560 1) [(cl c == 5, true), lU c, (decide (IntKind.i64.wrap (IntKind.i64.wrap (0 + 1) + 1) < ((3 : Nat) : Int)), true), (cl b == 5, false), lU b, (decide (IntKind.i64.wrap (0 + 1) < ((3 : Nat) : Int)), true), (cl a == 5, false), lU a, (decide ((0 : Int) < ((3 : Nat) : Int)), true), (decide (cl a > 3), true), lU a, (badB a b, false), (decide (U a ∧ U b), true)] := ⟨by kernel_rfl, by kernel_rfl, by kernel_rfl, by kernel_rfl⟩
theorem fm_a0 (a b c m : Int) : Fits (reckon (tabOf Tryz.prog extY conP1 true) 300 109 [.int .u64 a, .int .u64 b, .int .u64 c, .int .i64 m] [cmp false, cmp true, cmp true, cmp false, cmp true, cmp false, cmp true, cmp false, cmp false]) (rdT 9221120237041090560 0) [(decide (IntKind.i64.wrap (IntKind.i64.wrap (IntKind.i64.wrap (0 + 1) + 1) + 1) < ((3 : Nat) : Int)), false), (cl c == 5, false), lU c, (decide (IntKind.i64.wrap (IntKind.i64.wrap (0 + 1) + 1) < ((3 : Nat) : Int)), true), (cl b == 5, false), lU b, (decide (IntKind.i64.wrap (0 + 1) < ((3 : Nat) : Int)), true), (cl a == 5, false), lU a, (decide ((0 : Int) < ((3 : Nat) : Int)), true), (decide (cl a > 3), true), lU a, (badB a b, false), (decide (U a ∧ U b), true)] := ⟨by kernel_rfl, by kernel_rfl, by kernel_rfl, by kernel_rfl⟩
theorem fm_b2 (a b c m : Int) : Fits (reckon (tabOf Tryz.prog extY conP1 true) 300 109 [.int .u64 a, .int .u64 b, .int .u64 c, .int .i64 m] [cmp false, cmp false, cmp true, cmp true, cmp false, cmp true, cmp true]) (rdT 9221120237041090560 1) [(cl b == 5, true), lU b, (decide (IntKind.i64.wrap (0 + 1) < ((3 : Nat) : Int)), true), (cl a == 5, false), lU a, (decide ((0 : Int) < ((3 : Nat) : Int)), true), (decide (cl b > 3), true), lU b, (decide (cl a > 3), false), lU a, (badB a b, false), (decide (U a ∧ U b), true)] := ⟨by kernel_rfl, by kernel_rfl, by kernel_rfl, by kernel_rfl⟩
theorem fm_b3 (a b c m : Int) : Fits (reckon (tabOf Tryz.prog extY conP1 true) 300 109 [.int .u64 a, .int .u64 b, .int .u64 c, .int .i64 m] [cmp false, cmp false, cmp true, cmp true, cmp false, cmp true, cmp false, cmp true, cmp true]) (rdT 9221120237041090560 1) [(cl c == 5, true), lU c, (decide (IntKind.i64.wrap (IntKind.i64.wrap (0 + 1) + 1) < ((3 : Nat) : Int)), true), (cl b == 5, false), lU b, (decide (IntKind.i64.wrap (0 + 1) < ((3 : Nat) : Int)), true), (cl a == 5, false), lU a, (decide ((0 : Int) < ((3 : Nat) : Int)), true), (decide (cl b > 3), true), lU b, (decide (cl a > 3), false), lU a, (badB a b, false), (decide (U a ∧ U b), true)] := ⟨by kernel_rfl, by kernel_rfl, by kernel_rfl, by kernel_rfl⟩
theorem fm_b0 (a b c m : Int) : Fits (reckon (tabOf Tryz.prog extY conP1 true) 300 109 [.int .u64 a, .int .u64 b, .int .u64 c, .int .i64 m] [cmp false, cmp false, cmp true, cmp true, cmp false, cmp true, cmp false, cmp true, cmp false, cmp false]) (rdT 9221120237041090560 0) [(decide (IntKind.i64.wrap (IntKind.i64.wrap (IntKind.i64.wrap (0 + 1) + 1) + 1) < ((3 : Nat) : Int)), false), (cl c == 5, false), lU c, (decide (IntKind.i64.wrap (IntKind.i64.wrap (0 + 1) + 1) < ((3 : Nat) : Int)), true), (cl b == 5, false), lU b, (decide (IntKind.i64.wrap (0 + 1) < ((3 : Nat) : Int)), true), (cl a == 5, false), lU a, (decide ((0 : Int) < ((3 : Nat) : Int)), true), (decide (cl b > 3), true), lU b, (decide (cl a > 3), false), lU a, (badB a b, false), (decide (U a ∧ U b), true)] := ⟨by kernel_rfl, by kernel_rfl, by kernel_rfl, by kernel_rfl⟩
theorem fm_c3 (a b c m : Int) : Fits (reckon (tabOf Tryz.prog extY conP1 true) 300 109 [.int .u64 a, .int .u64 b, .int .u64 c, .int .i64 m] [cmp false, cmp false, cmp false, cmp true, cmp true, cmp false, cmp true, cmp false, cmp true, cmp true]) (rdT 9221120237041090560 1) [(cl c == 5, true), lU c, (decide (IntKind.i64.wrap (IntKind.i64.wrap (0 + 1) + 1) < ((3 : Nat) : Int)), true), (cl b == 5, false), lU b, (decide (IntKind.i64.wrap (0 + 1) < ((3 : Nat) : Int)), true), (cl a == 5, false), lU a, (decide ((0 : Int) < ((3 : Nat) : Int)), true), (decide (cl c > 3), true), lU c, (decide (cl b > 3), false), lU b, (decide (cl a > 3), false), lU a, (badB a b, false), (decide (U a ∧ U b), true)] := ⟨by kernel_rfl, by kernel_rfl, by kernel_rfl, by kernel_rfl⟩
theorem fm_c0 (a b c m : Int) : Fits (reckon (tabOf Tryz.prog extY conP1 true) 300 109 [.int .u64 a, .int .u64 b, .int .u64 c, .int .i64 m] [cmp false, cmp false, cmp false, cmp true, cmp true, cmp false, cmp true, cmp false, cmp true, cmp false, cmp false]) (rdT 9221120237041090560 0) [(decide (IntKind.i64.wrap (IntKind.i64.wrap (IntKind.i64.wrap (0 + 1) + 1) + 1) < ((3 : Nat) : Int)), false), (cl c == 5, false), lU c, (decide (IntKind.i64.wrap (IntKind.i64.wrap (0 + 1) + 1) < ((3 : Nat) : Int)), true), (cl b == 5, false), lU b, (decide (IntKind.i64.wrap (0 + 1) < ((3 : Nat) : Int)), true), (cl a == 5, false), lU a, (decide ((0 : Int) < ((3 : Nat) : Int)), true), (decide (cl c > 3), true), lU c, (decide (cl b > 3), false), lU b, (decide (cl a > 3), false), lU a, (badB a b, false), (decide (U a ∧ U b), true)] := ⟨by kernel_rfl, by kernel_rfl, by kernel_rfl, by kernel_rfl⟩
theorem fm_ea (a b c m : Int) : Fits (reckon (tabOf Tryz.prog extY conP1 true) 300 109 [.int .u64 a, .int .u64 b, .int .u64 c, .int .i64 m] [cmp false, cmp false, cmp false, cmp false, cmp true]) (suV m (sS (prN a b) inf) c) [(decide (U (sS (prN a b) inf) ∧ U c), true), (true, true), (decide (U a ∧ U b), true), (cl a == 3, true), lU a, (decide (cl c > 3), false), lU c, (decide (cl b > 3), false), lU b, (decide (cl a > 3), false), lU a, (badB a b, false), (decide (U a ∧ U b), true)] := ⟨by kernel_rfl, by kernel_rfl, by kernel_rfl, by kernel_rfl⟩
theorem fm_eb (a b c m : Int) : Fits (reckon (tabOf Tryz.prog extY conP1 true) 300 109 [.int .u64 a, .int .u64 b, .int .u64 c, .int .i64 m] [cmp false, cmp false, cmp false, cmp false, cmp false, cmp true]) (suV m (sS (prN a b) inf) c) [(decide (U (sS (prN a b) inf) ∧ U c), true), (true, true), (decide (U a ∧ U b), true), (cl b == 3, true), lU b, (cl a == 3, false), lU a, (decide (cl c > 3), false), lU c, (decide (cl b > 3), false), lU b, (decide (cl a > 3), false), lU a, (badB a b, false), (decide (U a ∧ U b), true)] := ⟨by kernel_rfl, by kernel_rfl, by kernel_rfl, by kernel_rfl⟩
theorem fm_ec (a b c m : Int) : Fits (reckon (tabOf Tryz.prog extY conP1 true) 300 109 [.int .u64 a, .int .u64 b, .int .u64 c, .int .i64 m] [cmp false, cmp false, cmp false, cmp false, cmp false, cmp false, cmp true]) (rdT c 0) [(cl c == 3, true), lU c, (cl b == 3, false), lU b, (cl a == 3, false), lU a, (decide (cl c > 3), false), lU c, (decide (cl b > 3), false), lU b, (decide (cl a > 3), false), lU a, (badB a b, false), (decide (U a ∧ U b), true)] := ⟨by kernel_rfl, by kernel_rfl, by kernel_rfl, by kernel_rfl⟩
theorem fm_fin (a b c m : Int) : Fits (reckon (tabOf Tryz.prog extY conP1 true) 300 109 [.int .u64 a, .int .u64 b, .int .u64 c, .int .i64 m] [cmp false, cmp false, cmp false, cmp false, cmp false, cmp false, cmp false, cmp true]) (rdV m (xuN m (prN a b) (prE a b) (ofN (prV a b)).nat (sgn c) (xp c) (wSg c).nat) (tw (ofN (xuQ (prN a b) (prE a b) (ofN (prV a b)).nat (sgn c) (xp c) (wSg c).nat)) (xuB (prN a b) (prE a b) (ofN (prV a b)).nat (sgn c) (xp c) (wSg c).nat)) (clp (unN (prE a b) (ofN (prV a b)).nat (xp c) (wSg c).nat) - 1)) [(decide (ofN (xuQ (prN a b) (prE a b) (ofN (prV a b)).nat (sgn c) (xp c) (wSg c).nat)).ok, true), (okEx (prE a b) (ofN (prV a b)) false (xp c) (wSg c) false, true), (finB a b, true), (decide (U a ∧ U b), true), (okEx (prE a b) (ofN (prV a b)) false (xp c) (wSg c) false, true), (okEx (prE a b) (ofN (prV a b)) false (xp c) (wSg c) false, true), (finB a b, true), (decide (U a ∧ U b), true), lU c, (decide (cl c ≤ 2), true), lU c, (cl c == 3, false), lU c, (cl b == 3, false), lU b, (cl a == 3, false), lU a, (decide (cl c > 3), false), lU c, (decide (cl b > 3), false), lU b, (decide (cl a > 3), false), lU a, (badB a b, false), (decide (U a ∧ U b), true)] := ⟨by kernel_rfl, by kernel_rfl, by kernel_rfl, by kernel_rfl⟩
/-- what Fma answers -/
def fmP (m a b c : Int) : Int := if badB a b = true then 9221120237041090560 else if 3 < cl a ∨ 3 < cl b ∨ 3 < cl c then 9221120237041090560 else if cl a = 3 ∨ cl b = 3 then suP m (sS (prN a b) inf) c else if cl c = 3 then c else sS (fsN m a b c) (fsP m a b c)
def fmF (m a b c : Int) : Int := if badB a b = true then 1 else if 3 < cl a ∨ 3 < cl b ∨ 3 < cl c then (if cl a = 5 ∨ cl b = 5 ∨ cl c = 5 then 1 else 0) else if cl a = 3 ∨ cl b = 3 then suF m (sS (prN a b) inf) c else if cl c = 3 then 0 else fsF m a b c
theorem inf_U (n : Bool) : U (sS n inf) := by cases n <;> decide
theorem fx_round (m a b c : Int) : rdV m (xuN m (prN a b) (prE a b) (ofN (prV a b)).nat (sgn c) (xp c) (wSg c).nat) (tw (ofN (xuQ (prN a b) (prE a b) (ofN (prV a b)).nat (sgn c) (xp c) (wSg c).nat)) (xuB (prN a b) (prE a b) (ofN (prV a b)).nat (sgn c) (xp c) (wSg c).nat)) (clp (unN (prE a b) (ofN (prV a b)).nat (xp c) (wSg c).nat) - 1) = rdT (sS (fsN m a b c) (fsP m a b c)) (fsF m a b c) := by
  have hE := prE_bd a b
  have hc := xp_bd c
  rw [ofN_nat (prV_256 a b), wSg_nat]
  exact xu_rd m m (may_prod a b) (may_pat c) (G := -2148) (by omega) (by omega) (prN a b) (sgn c)
theorem kE_of (a b c : Int) : okEx (prE a b) (ofN (prV a b)) false (xp c) (wSg c) false = true := by
  have h1 := may_prod a b
  have h2 := may_pat c
  refine decide_eq_true ⟨ofN_ok _, wSg_ok c, rfl, rfl, (may_iff (ofN_ok _)).2 ?_, (may_iff (wSg_ok c)).2 ?_⟩
  · rw [ofN_nat (prV_256 a b)]; exact h1
  · rw [wSg_nat]; exact h2
theorem pfma_calls (a b c m : Int) (ha : U a) (hb : U b) (hc : U c) (w : World) : Calls Tryz.prog 109 #[.int .u64 a, .int .u64 b, .int .u64 c, .int .i64 m] w fun r w' => r = .returned (rdT (fmP m a b c) (fmF m a b c)) ∧ Tidy w w' := by
  have hv : ([.int .u64 a, .int .u64 b, .int .u64 c, .int .i64 m].all (lt 0)) = true := rfl
  have T := tabY_ok conP1_ok
  have ka : decide (U a) = true := decide_eq_true ha
  have kb : decide (U b) = true := decide_eq_true hb
  have kc : decide (U c) = true := decide_eq_true hc
  have kab : decide (U a ∧ U b) = true := decide_eq_true ⟨ha, hb⟩
  have kic : decide (U (sS (prN a b) inf) ∧ U c) = true := decide_eq_true ⟨inf_U _, hc⟩
  have kE := kE_of a b c
  have ba := cl_bd a
  have bb := cl_bd b
  have bc := cl_bd c
  unfold fmP fmF
  by_cases hbd : badB a b = true
  · rw [if_pos hbd, if_pos hbd]
    exact fits_calls T (fm_bad a b c m) (okCons hbd (okL1 kab)) hv (by rfl) w
  · have hb0 : badB a b = false := by simpa using hbd
    rw [if_neg hbd, if_neg hbd]
    by_cases ha3 : 3 < cl a
    · rw [if_pos (.inl ha3), if_pos (.inl ha3)]
      by_cases a5 : cl a = 5
      · rw [if_pos (.inl a5)]
        exact fits_calls T (fm_a1 a b c m) (okCons (beq_t a5) (okCons ka (okCons (by decide) (okCons (decide_eq_true ha3) (okCons ka (okCons hb0 (okL1 kab))))))) hv (by rfl) w
      · by_cases b5 : cl b = 5
        · rw [if_pos (.inr (.inl b5))]
          exact fits_calls T (fm_a2 a b c m) (okCons (beq_t b5) (okCons kb (okCons (by decide) (okCons (beq_f (by omega)) (okCons ka (okCons (by decide) (okCons (decide_eq_true ha3) (okCons ka (okCons hb0 (okL1 kab)))))))))) hv (by rfl) w
        · by_cases c5 : cl c = 5
          · rw [if_pos (.inr (.inr c5))]
            exact fits_calls T (fm_a3 a b c m) (okCons (beq_t c5) (okCons kc (okCons (by decide) (okCons (beq_f (by omega)) (okCons kb (okCons (by decide) (okCons (beq_f (by omega)) (okCons ka (okCons (by decide) (okCons (decide_eq_true ha3) (okCons ka (okCons hb0 (okL1 kab))))))))))))) hv (by rfl) w
          · rw [if_neg (by omega)]
            exact fits_calls T (fm_a0 a b c m) (okCons (by decide) (okCons (beq_f (by omega)) (okCons kc (okCons (by decide) (okCons (beq_f (by omega)) (okCons kb (okCons (by decide) (okCons (beq_f (by omega)) (okCons ka (okCons (by decide) (okCons (decide_eq_true ha3) (okCons ka (okCons hb0 (okL1 kab)))))))))))))) hv (by rfl) w
    · by_cases hb3 : 3 < cl b
      · rw [if_pos (.inr (.inl hb3)), if_pos (.inr (.inl hb3))]
        by_cases b5 : cl b = 5
        · rw [if_pos (.inr (.inl b5))]
          exact fits_calls T (fm_b2 a b c m) (okCons (beq_t b5) (okCons kb (okCons (by decide) (okCons (beq_f (by omega)) (okCons ka (okCons (by decide) (okCons (decide_eq_true hb3) (okCons kb (okCons (decide_eq_false ha3) (okCons ka (okCons hb0 (okL1 kab)))))))))))) hv (by rfl) w
        · by_cases c5 : cl c = 5
          · rw [if_pos (.inr (.inr c5))]
            exact fits_calls T (fm_b3 a b c m) (okCons (beq_t c5) (okCons kc (okCons (by decide) (okCons (beq_f (by omega)) (okCons kb (okCons (by decide) (okCons (beq_f (by omega)) (okCons ka (okCons (by decide) (okCons (decide_eq_true hb3) (okCons kb (okCons (decide_eq_false ha3) (okCons ka (okCons hb0 (okL1 kab))))))))))))))) hv (by rfl) w
          · rw [if_neg (by omega)]
            exact fits_calls T (fm_b0 a b c m) (okCons (by decide) (okCons (beq_f (by omega)) (okCons kc (okCons (by decide) (okCons (beq_f (by omega)) (okCons kb (okCons (by decide) (okCons (beq_f (by omega)) (okCons ka (okCons (by decide) (okCons (decide_eq_true hb3) (okCons kb (okCons (decide_eq_false ha3) (okCons ka (okCons hb0 (okL1 kab)))))))))))))))) hv (by rfl) w
      · by_cases hc3 : 3 < cl c
        · rw [if_pos (.inr (.inr hc3)), if_pos (.inr (.inr hc3))]
          by_cases c5 : cl c = 5
          · rw [if_pos (.inr (.inr c5))]
            exact fits_calls T (fm_c3 a b c m) (okCons (beq_t c5) (okCons kc (okCons (by decide) (okCons (beq_f (by omega)) (okCons kb (okCons (by decide) (okCons (beq_f (by omega)) (okCons ka (okCons (by decide) (okCons (decide_eq_true hc3) (okCons kc (okCons (decide_eq_false hb3) (okCons kb (okCons (decide_eq_false ha3) (okCons ka (okCons hb0 (okL1 kab))))))))))))))))) hv (by rfl) w
          · rw [if_neg (by omega)]
            exact fits_calls T (fm_c0 a b c m) (okCons (by decide) (okCons (beq_f (by omega)) (okCons kc (okCons (by decide) (okCons (beq_f (by omega)) (okCons kb (okCons (by decide) (okCons (beq_f (by omega)) (okCons ka (okCons (by decide) (okCons (decide_eq_true hc3) (okCons kc (okCons (decide_eq_false hb3) (okCons kb (okCons (decide_eq_false ha3) (okCons ka (okCons hb0 (okL1 kab)))))))))))))))))) hv (by rfl) w
        · have hno : ¬ (3 < cl a ∨ 3 < cl b ∨ 3 < cl c) := by omega
          rw [if_neg hno, if_neg hno]
          by_cases ae : cl a = 3
          · rw [if_pos (.inl ae), if_pos (.inl ae)]
            exact fits_calls T (fm_ea a b c m) (okCons kic (okCons rfl (okCons kab (okCons (beq_t ae) (okCons ka (okCons (decide_eq_false hc3) (okCons kc (okCons (decide_eq_false hb3) (okCons kb (okCons (decide_eq_false ha3) (okCons ka (okCons hb0 (okL1 kab))))))))))))) hv (by rfl) w
          · by_cases be : cl b = 3
            · rw [if_pos (.inr be), if_pos (.inr be)]
              exact fits_calls T (fm_eb a b c m) (okCons kic (okCons rfl (okCons kab (okCons (beq_t be) (okCons kb (okCons (beq_f ae) (okCons ka (okCons (decide_eq_false hc3) (okCons kc (okCons (decide_eq_false hb3) (okCons kb (okCons (decide_eq_false ha3) (okCons ka (okCons hb0 (okL1 kab))))))))))))))) hv (by rfl) w
            · have hno2 : ¬ (cl a = 3 ∨ cl b = 3) := by omega
              rw [if_neg hno2, if_neg hno2]
              by_cases ce : cl c = 3
              · rw [if_pos ce, if_pos ce]
                exact fits_calls T (fm_ec a b c m) (okCons (beq_t ce) (okCons kc (okCons (beq_f be) (okCons kb (okCons (beq_f ae) (okCons ka (okCons (decide_eq_false hc3) (okCons kc (okCons (decide_eq_false hb3) (okCons kb (okCons (decide_eq_false ha3) (okCons ka (okCons hb0 (okL1 kab)))))))))))))) hv (by rfl) w
              · rw [if_neg ce, if_neg ce]
                have hf := fm_fin a b c m
                rw [fx_round] at hf
                exact fits_calls T hf (okCons (decide_eq_true (ofN_ok _)) (okCons kE (okCons (decide_eq_true ⟨by omega, by omega⟩) (okCons kab (okCons kE (okCons kE (okCons (decide_eq_true ⟨by omega, by omega⟩) (okCons kab (okCons kc (okCons (decide_eq_true (by omega)) (okCons kc (okCons (beq_f ce) (okCons kc (okCons (beq_f be) (okCons kb (okCons (beq_f ae) (okCons ka (okCons (decide_eq_false hc3) (okCons kc (okCons (decide_eq_false hb3) (okCons kb (okCons (decide_eq_false ha3) (okCons ka (okCons hb0 (okL1 kab))))))))))))))))))))))))) hv (by rfl) w
def gPF : Ans := fun vals s =>
  match vals with
  | [.int .u64 a, .int .u64 b, .int .u64 c, .int .i64 m] => some (rdT (fmP m a b c) (fmF m a b c), s, [(decide (U a ∧ U b ∧ U c), true)])
  | _ => none
theorem gPF_ok : AnsOk 109 gPF := by
  intro vals s v s' lg h hl w
  unfold gPF at h
  split at h
  · cases h
    obtain ⟨h1, h2, h3⟩ := of_decide_eq_true (hl _ (List.mem_singleton.2 rfl))
    exact pfma_calls _ _ _ _ h1 h2 h3 w
  · cases h
end Go.Proofs.YtjkgnbdeklploaaGreatDoor
namespace Go.Proofs.YtjkgnbdeklploaaGreatDoor
open Go.KRun Go.Wd Go.Pt Go.Rn
theorem sS_mag {n : Bool} {r : Int} (h0 : 0 ≤ r) (h1 : r < 9223372036854775808) : mag (sS n r) = r ∧ sgn (sS n r) = n ∧ U (sS n r) ∧ uV (sS n r) = uV r := by
  have e : ex (sS n r) = ex r ∧ fr (sS n r) = fr r := by unfold ex fr sS; split <;> omega
  refine ⟨by unfold mag sS; split <;> omega, ?_, by unfold U sS; split <;> omega, ?_⟩
  · cases n
    · simp only [sS, Bool.false_eq_true, if_false, sgn]; exact decide_eq_false (by omega)
    · simp only [sS, if_true, sgn]; exact decide_eq_true (by omega)
  · unfold uV xp sg; rw [e.1, e.2]
theorem bXor_ng {p : Int} (hp : U p) : bXor p 9223372036854775808 = ng p := bXor_sign hp
theorem suP_nan {m a b : Int} (h : 3 < cl a ∨ 3 < cl b) : suP m a b = 9221120237041090560 := by unfold suP; rw [if_pos h]
theorem suP_fin {m a b : Int} (ha : cl a ≤ 2) (hb : cl b ≤ 2) : suP m a b = sS (adN m a b) (adP m a b) ∧ suF m a b = adF m a b := by
  unfold suP suF
  have h0 : ¬ (3 < cl a ∨ 3 < cl b) := by omega
  have h1 : ¬ cl a = 3 := by omega
  have h2 : ¬ cl b = 3 := by omega
  rw [if_neg h0, if_neg h1, if_neg h2, if_neg h0, if_neg h1, if_neg h2]
  exact ⟨rfl, rfl⟩
theorem suP_infa {m a b : Int} (ha : cl a = 3) (hb : cl b ≤ 3) (h : ¬ (cl b = 3 ∧ a ≠ b)) : suP m a b = a ∧ suF m a b = 0 := by
  unfold suP suF
  have h0 : ¬ (3 < cl a ∨ 3 < cl b) := by omega
  rw [if_neg h0, if_pos ha, if_neg h, if_neg h0, if_pos ha, if_neg h]
  exact ⟨rfl, rfl⟩
theorem suP_infi {m a b : Int} (ha : cl a = 3) (hb : cl b = 3) (h : a ≠ b) : suP m a b = 9221120237041090560 ∧ suF m a b = 1 := by
  unfold suP suF
  have h0 : ¬ (3 < cl a ∨ 3 < cl b) := by omega
  rw [if_neg h0, if_pos ha, if_pos ⟨hb, h⟩, if_neg h0, if_pos ha, if_pos ⟨hb, h⟩]
  exact ⟨rfl, rfl⟩
theorem suP_infb {m a b : Int} (ha : cl a ≤ 2) (hb : cl b = 3) : suP m a b = b ∧ suF m a b = 0 := by
  unfold suP suF
  have h0 : ¬ (3 < cl a ∨ 3 < cl b) := by omega
  have h1 : ¬ cl a = 3 := by omega
  rw [if_neg h0, if_neg h1, if_pos hb, if_neg h0, if_neg h1, if_pos hb]
  exact ⟨rfl, rfl⟩
theorem su_comm (m a b : Int) : suP m a b = suP m b a ∧ suF m a b = suF m b a := by
  by_cases hn : 3 < cl a ∨ 3 < cl b
  · have hn' : 3 < cl b ∨ 3 < cl a := by omega
    refine ⟨by rw [suP_nan hn, suP_nan hn'], ?_⟩
    unfold suF
    rw [if_pos hn, if_pos hn']
    congr 1
    simp only [eq_iff_iff]
    omega
  · by_cases ha : cl a = 3
    · by_cases hb : cl b = 3
      · by_cases hab : a = b
        · rw [hab]; exact ⟨rfl, rfl⟩
        · rw [(suP_infi ha hb hab).1, (suP_infi ha hb hab).2, (suP_infi hb ha (fun e => hab e.symm)).1, (suP_infi hb ha (fun e => hab e.symm)).2]
          exact ⟨rfl, rfl⟩
      · obtain ⟨p1, p2⟩ := suP_infa (m := m) (b := b) ha (by omega) (fun h => hb h.1)
        obtain ⟨q1, q2⟩ := suP_infb (m := m) (a := b) (b := a) (by omega) ha
        rw [p1, p2, q1, q2]; exact ⟨rfl, rfl⟩
    · by_cases hb : cl b = 3
      · obtain ⟨p1, p2⟩ := suP_infb (m := m) (a := a) (b := b) (by omega) hb
        obtain ⟨q1, q2⟩ := suP_infa (m := m) (a := b) (b := a) hb (by omega) (fun h => ha h.1)
        rw [p1, p2, q1, q2]; exact ⟨rfl, rfl⟩
      · obtain ⟨p1, p2⟩ := suP_fin (m := m) (a := a) (b := b) (by omega) (by omega)
        obtain ⟨q1, q2⟩ := suP_fin (m := m) (a := b) (b := a) (by omega) (by omega)
        obtain ⟨r1, r2⟩ := ad_comm m a b
        rw [p1, p2, q1, q2, adN_comm, r1, r2]; exact ⟨rfl, rfl⟩
theorem ad_lt (m a b : Int) : 0 ≤ adP m a b ∧ adP m a b < 9223372036854775808 := by have := ad_bd m a b; omega
theorem su_U {m a b : Int} (ha : U a) (hb : U b) : U (suP m a b) := by
  have hN : U 9221120237041090560 := by decide
  by_cases hn : 3 < cl a ∨ 3 < cl b
  · rw [suP_nan hn]; exact hN
  · by_cases ca : cl a = 3
    · by_cases hi : cl b = 3 ∧ a ≠ b
      · rw [(suP_infi ca hi.1 hi.2).1]; exact hN
      · rw [(suP_infa ca (by omega) hi).1]; exact ha
    · by_cases cb : cl b = 3
      · rw [(suP_infb (by omega) cb).1]; exact hb
      · rw [(suP_fin (by omega) (by omega)).1]
        exact (sS_mag (ad_lt m a b).1 (ad_lt m a b).2).2.2.1
theorem fs_lt (m a b c : Int) : 0 ≤ fsP m a b c ∧ fsP m a b c < 9223372036854775808 := by have := fs_bd m a b c; omega
theorem fm_U (m a b : Int) {c : Int} (hc : U c) : U (fmP m a b c) := by
  unfold fmP
  split
  · decide
  · split
    · decide
    · split
      · exact su_U (inf_U _) hc
      · split
        · exact hc
        · exact (sS_mag (fs_lt m a b c).1 (fs_lt m a b c).2).2.2.1
theorem fmP_fin {m a b c : Int} (ha : cl a ≤ 2) (hb : cl b ≤ 2) (hc : cl c ≤ 2) : fmP m a b c = sS (fsN m a b c) (fsP m a b c) ∧ fmF m a b c = fsF m a b c := by
  have h0 : ¬ badB a b = true := by unfold badB; rw [decide_eq_true_iff]; omega
  have h1 : ¬ (3 < cl a ∨ 3 < cl b ∨ 3 < cl c) := by omega
  have h2 : ¬ (cl a = 3 ∨ cl b = 3) := by omega
  have h3 : ¬ cl c = 3 := by omega
  unfold fmP fmF
  rw [if_neg h0, if_neg h0, if_neg h1, if_neg h1, if_neg h2, if_neg h2, if_neg h3, if_neg h3]
  exact ⟨rfl, rfl⟩
/-! ### the other signs -/
/-! ### what rounding left -/
end Go.Proofs.YtjkgnbdeklploaaGreatDoor
namespace Go.KRun
open Go.RowKit
/-- From state x the code c ends, in one of the ways that 'Post' tells. -/
def Runs (T : Tab) (c : Code) (x : Lf) (Post : Ex → Lf → Prop) : Prop :=
  ∀ m B a w, Rel m B x a w → ∀ Q : Exit → Act → World → Prop, (∀ e y, Post e y → ∀ a' w', Reach m B x.2.1.n w y a' w' → Q (out e) a' w') → c.wp T.P Q a w
theorem Runs.mono {T : Tab} {c : Code} {x : Lf} {P P' : Ex → Lf → Prop} (h : Runs T c x P) (hp : ∀ e y, P e y → P' e y) : Runs T c x P' :=
  fun m B a w R Q hQ => h m B a w R Q fun e y he => hQ e y (hp e y he)
/-- the decisions that are told ahead are no part of the state -/
theorem Runs.script {T : Tab} {c : Code} {t : List Value} {h : Hp} {s s' : List Dec} {P : Ex → Lf → Prop} (hr : Runs T c (t, h, s) P) : Runs T c (t, h, s') P :=
  fun m B a w R Q hQ => hr m B a w ⟨R.tmps, R.dfr, R.emb, R.wf⟩ Q hQ
theorem Runs.ev {T : Tab} (hT : TabOk T) {n : Nat} {c : Code} {x x' : Lf} {e : Ex} {L : Lg} (h : evC T n false c x ⟨[], [], []⟩ = some (e, x', L)) (hL : L.ok) : Runs T c x fun e' y => e' = e ∧ y = x' :=
  fun m B a w R Q hQ => ((evC_ok hT n).1 c x _ e x' L h hL).2 m B a w R Q fun a' w' hR => hQ e x' ⟨rfl, rfl⟩ a' w' hR
theorem Runs.seq {T : Tab} {c1 c2 : Code} {x : Lf} {P1 P : Ex → Lf → Prop} (h1 : Runs T c1 x P1) (h2 : ∀ y, P1 none y → Runs T c2 y P) (h3 : ∀ e y, P1 (some e) y → P (some e) y) : Runs T (.seq c1 c2) x P := by
  intro m B a w R Q hQ
  refine wp_seq (h1 m B a w R _ fun e y he a' w' hR => ?_)
  match e, he with
  | none, he =>
    obtain ⟨m', k1, k2, k3, k4⟩ := hR
    exact h2 y he m' B a' w' k2 Q fun e' y' he' a'' w'' hR' => hQ e' y' he' a'' w'' (Reach.trans k1 k3 k4 hR')
  | some none, he => exact hQ _ _ (h3 none y he) a' w' hR
  | some (some id), he => exact hQ _ _ (h3 (some id) y he) a' w' hR
theorem Runs.block {T : Tab} {c : Code} {id : Nat} {x : Lf} {P1 P : Ex → Lf → Prop} (h1 : Runs T c x P1) (h2 : ∀ y, P1 none y → P none y) (h3 : ∀ y, P1 (some none) y → P (some none) y)
    (h4 : ∀ y, P1 (some (some id)) y → P none y) (h5 : ∀ id' y, id' ≠ id → P1 (some (some id')) y → P (some (some id')) y) : Runs T (.block id c) x P := by
  intro m B a w R Q hQ
  refine wp_block (h1 m B a w R _ fun e y he a' w' hR => ?_)
  match e, he with
  | none, he => exact hQ _ _ (h2 y he) a' w' hR
  | some none, he => exact hQ _ _ (h3 y he) a' w' hR
  | some (some id'), he =>
    simp only [out, Exit.inBlock]
    by_cases hid : id' = id
    · subst hid
      rw [if_pos rfl]
      exact hQ _ _ (h4 y he) a' w' hR
    · rw [if_neg hid]
      exact hQ _ _ (h5 id' y hid he) a' w' hR
/-- a loop: 'Inv n x': at its head in state x, at most n rounds are left -/
theorem Runs.loop {T : Tab} {c : Code} {P : Ex → Lf → Prop} (Inv : Nat → Lf → Prop) (round : ∀ n x, Inv n x → Runs T c x fun e y => match e with | none => ∃ n', n' < n ∧ Inv n' y | some e => P (some e) y) {n : Nat} {x : Lf} (h0 : Inv n x) :
    Runs T (.loop c) x P := by
  have key : ∀ N n x, n < N → Inv n x → ∀ m B a w, Rel m B x a w → ∀ Q : Exit → Act → World → Prop, (∀ e y, P e y → ∀ a' w', Reach m B x.2.1.n w y a' w' → Q (out e) a' w') → Code.rounds T.P c Q N a w := by
    intro N
    induction N with
    | zero => intro n x hn; omega
    | succ N ih =>
      intro n x hn hI m B a w R Q hQ
      rw [rounds_succ]
      refine round n x hI m B a w R _ fun e y he a' w' hR => ?_
      match e, he with
      | none, he =>
        obtain ⟨n', hn', hI'⟩ := he
        obtain ⟨m', k1, k2, k3, k4⟩ := hR
        exact ih n' y (by omega) hI' m' B a' w' k2 Q fun e' y' he' a'' w'' hR' => hQ e' y' he' a'' w'' (Reach.trans k1 k3 k4 hR')
      | some none, he => exact hQ _ _ he a' w' hR
      | some (some id), he => exact hQ _ _ he a' w' hR
  intro m B a w R Q hQ
  exact wp_loop_rounds (n + 1) (key (n + 1) n x (by omega) h0 m B a w R Q hQ)
/-- a call out of its body -/
theorem calls_of_runs {T : Tab} {f : Nat} {F : Func} {c : Code} (hF : T.P.funcs[f]? = some F) (hc : F.body = some c) {vals : List Value} {v : Value} (hvals : (vals.all (lt 0)) = true) (hv : lt 0 v = true)
    (h : Runs T c (vals ++ List.replicate (F.ntmps - vals.length) undef, ⟨0, []⟩, []) fun e y => (e = none ∨ e = some none) ∧ resS T.P F y.1 y.2.1 = some v) (w : World) :
    Calls T.P f vals.toArray w fun e w' => e = .returned v ∧ Tidy w w' := by
  have E : Emb (fun b => (b, 0)) w.heap.size ⟨0, []⟩ w :=
    Emb.none w
  have hst : ∀ y ∈ vals, lt 0 y = true := List.all_eq_true.1 hvals
  have e0 : vals.map (mv fun b => (b, 0)) = vals := (List.map_congr_left fun y hy => mv_still (hst y hy)).trans (List.map_id' _)
  refine calls_of_wp hF hc ?_
  have R : Rel (fun b => (b, 0)) w.heap.size (vals ++ List.replicate (F.ntmps - vals.length) undef, ⟨0, []⟩, []) { tmps := vals.toArray ++ Array.replicate (F.ntmps - vals.toArray.size) undef, defers := [] } w := by
    refine ⟨?_, rfl, E, ?_⟩
    · simp [mv_undef, e0]
    · intro y hy
      rcases List.mem_append.1 hy with hy | hy
      · exact hst y hy
      · rw [List.eq_of_mem_replicate hy]; simp [undef, lt]
  refine h _ _ _ w R _ fun e y he a' w' hR => ?_
  obtain ⟨hex, hres⟩ := he
  obtain ⟨m', k1, k2, k3, k4⟩ := hR
  obtain ⟨r1, r2⟩ := resS_run k2.emb k2.wf hres
  rw [← k2.tmps, mv_still hv] at r1
  have post : a'.defers = [] ∧ ∃ v', (results F a'.tmps).run T.P w' = .ok v' w' ∧ (Ending.returned v' = .returned v ∧ Tidy w w') :=
    ⟨k2.dfr, _, r1, rfl, k3, fun k h1 h2 => k2.emb.ice k h1 h2⟩
  rcases hex with rfl | rfl <;> exact post
/-! ### the pieces of a piece of code -/
def cFst : Code → Code
  | .seq a _ => a
  | c => c
def cSnd : Code → Code
  | .seq _ b => b
  | c => c
def cIn : Code → Code
  | .block _ c => c
  | .loop c => c
  | .scope c => c
  | c => c
def cBody (F : Func) : Code := F.body.getD .skip
/-- pieces one behind the other, ahead of the rest -/
def seqs : List Code → Code → Code
  | [], X => X
  | c :: cs, X => .seq c (seqs cs X)
def evL (T : Tab) (n : Nat) : List Code → Lf → Lg → Option (Ex × Lf × Lg)
  | [], x, L => some (none, x, L)
  | c :: cs, x, L =>
    match evC T n false c x L with
    | some (none, x', L') => evL T n cs x' L'
    | _ => none
theorem evL_ok {T : Tab} (hT : TabOk T) {n : Nat} {X : Code} {P : Ex → Lf → Prop} : ∀ (cs : List Code) (x x' : Lf) (L L' : Lg) (e : Ex), evL T n cs x L = some (e, x', L') → L'.ok → L.ok ∧ e = none ∧ (Runs T X x' P → Runs T (seqs cs X) x P)
  | [], x, x', L, L', e, h, hL => by
    simp only [evL] at h
    cases h
    exact ⟨hL, rfl, id⟩
  | c :: cs, x, x', L, L', e, h, hL => by
    simp only [evL] at h
    split at h
    · rename_i x1 L1 h1
      obtain ⟨g1, g2, g3⟩ := evL_ok hT cs x1 x' L1 L' e h hL
      obtain ⟨g4, g5⟩ := (evC_ok hT n).1 _ _ _ _ _ _ h1 g1
      refine ⟨g4, g2, fun hX m B a w R Q hQ => wp_seq (g5 m B a w R _ fun a' w' hR => ?_)⟩
      obtain ⟨m', k1, k2, k3, k4⟩ := hR
      exact g3 hX m' B a' w' k2 Q fun e' y' he' a'' w'' hR' => hQ e' y' he' a'' w'' (Reach.trans k1 k3 k4 hR')
    · cases h
end Go.KRun
