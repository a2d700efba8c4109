/-
  Products of the seat's program, II: wide.mulAdd and wide.Mul, as calls: what they answer of any numbers, in every world.
-/
import Derived.Test.YtecaahiajbkioaaG28
import Derived.Test.YtecaahiajbkioaaG25
namespace Go.Proofs.Ytecaahiajbkioaa
open Go.KRun Go.Wd
set_option maxRecDepth 100000

def u1m : Value → Option Int
  | .int .u64 n => some n
  | _ => none
theorem u1m_spec {v : Value} {n : Int} (h : u1m v = some n) : v = u_ n := by
  unfold u1m at h
  split at h
  · cases h; rfl
  · cases h
def gMul : Ans := fun vals s =>
  match vals with
  | [x, y] =>
    match u1m x, u1m y with
    | some a, some b => some (.tuple #[u_ (a * b / 18446744073709551616), u_ (a * b % 18446744073709551616)], s, [(decide (word a ∧ word b), true)])
    | _, _ => none
  | _ => none
theorem gMul_ok : AnsOk 90 gMul := by
  intro vals s v s' lg h hl w
  unfold gMul at h
  split at h
  · split at h
    · rename_i a b ha hb
      cases h
      have h1 := hl _ (List.mem_singleton.2 rfl)
      simp only [decide_eq_true_eq] at h1
      rw [u1m_spec ha, u1m_spec hb]
      exact mul64_calls a b h1.1 h1.2 w
    · cases h
  · cases h
def conM : Con := alt 90 gMul conN
theorem conM_ok : ConOk conM := alt_ok Try.func90 rfl gMul_ok conN_ok
def pL (x y m : Int) : Int := Wd.ad (x * y % 18446744073709551616) m 0
def oA (x y c : Int) : Bool × Bool := (decide (0 ≤ x ∧ 0 ≤ y ∧ 0 ≤ c ∧ c ≤ 1), true)
theorem ma_fits (x y m c : Int) : Fits (reckon (tabOf Try.prog extY conM true) 3000 81 [u_ x, u_ y, u_ m, u_ c] [])
    (.tuple #[u_ (Wd.ad (pL x y m) c 0), u_ (IntKind.u64.wrap (IntKind.u64.wrap (x * y / 18446744073709551616 + ca (x * y % 18446744073709551616) m 0) + ca (pL x y m) c 0))])
    [oA (pL x y m) c 0, oA (x * y % 18446744073709551616) m 0, (decide (word x ∧ word y), true)] := ⟨by kernel_rfl, by kernel_rfl, by kernel_rfl, by kernel_rfl⟩
theorem ma_arith {x y : Int} (hx : word x) (hy : word y) : 0 ≤ x * y ∧ x * y ≤ 340282366920938463426481119284349108225 := by
  refine ⟨Int.mul_nonneg hx.1 hy.1, ?_⟩
  have := Int.mul_le_mul (show x ≤ 18446744073709551615 by omega) (show y ≤ 18446744073709551615 by omega) hy.1 (by omega)
  omega
theorem ma_calls (x y m c : Int) (hx : word x) (hy : word y) (hm : word m) (hc : word c) (w : World) : Calls Try.prog 81 #[u_ x, u_ y, u_ m, u_ c] w fun e w' =>
    e = .returned (.tuple #[u_ ((x * y + m + c) % 18446744073709551616), u_ ((x * y + m + c) / 18446744073709551616)]) ∧ Tidy w w' := by
  have bd := ma_arith hx hy
  have h := fits_calls (tabY_ok conM_ok) (ma_fits x y m c) (okCons (decide_eq_true (by unfold pL Wd.ad; omega)) (okCons (decide_eq_true (by omega)) (okL1 (decide_eq_true ⟨hx, hy⟩)))) (by rfl) (by rfl) w
  have e1 : Wd.ad (pL x y m) c 0 = (x * y + m + c) % 18446744073709551616 := by unfold pL Wd.ad; omega
  have e2 : IntKind.u64.wrap (IntKind.u64.wrap (x * y / 18446744073709551616 + ca (x * y % 18446744073709551616) m 0) + ca (pL x y m) c 0) = (x * y + m + c) / 18446744073709551616 := by
    unfold pL ca Wd.ad
    rw [wrap_u64, wrap_u64]
    omega
  rw [e1, e2] at h
  exact h
def gMA : Ans := fun vals s =>
  match vals with
  | [x, y, m, c] =>
    match u1m x, u1m y, u1m m, u1m c with
    | some x, some y, some m, some c => some (.tuple #[u_ ((x * y + m + c) % 18446744073709551616), u_ ((x * y + m + c) / 18446744073709551616)], s, [(decide (word x ∧ word y ∧ word m ∧ word c), true)])
    | _, _, _, _ => none
  | _ => none
theorem gMA_ok : AnsOk 81 gMA := by
  intro vals s v s' lg h hl w
  unfold gMA at h
  split at h
  · split at h
    · rename_i x y m c hx hy hm hc
      cases h
      have h1 := hl _ (List.mem_singleton.2 rfl)
      simp only [decide_eq_true_eq] at h1
      rw [u1m_spec hx, u1m_spec hy, u1m_spec hm, u1m_spec hc]
      exact ma_calls _ _ _ _ h1.1 h1.2.1 h1.2.2.1 h1.2.2.2 w
    · cases h
  · cases h
def conMA : Con := alt 81 gMA conN
theorem conMA_ok : ConOk conMA := alt_ok Try.func81 rfl gMA_ok conN_ok

/-! ### a row of the product, and the product -/
def lo (x y z c : Int) : Int := (x * y + z + c) % 18446744073709551616
def hi (x y z c : Int) : Int := (x * y + z + c) / 18446744073709551616
def rowF (x : Int) : List Int → List Int → Int → List Int
  | y :: ys, z :: zs, c => lo x y z c :: rowF x ys zs (hi x y z c)
  | _, _, c => [c]
def jl (j : Int) : Bool × Bool := (decide (j < 4), true)
def je : Bool × Bool := (decide ((4 : Int) < 4), false)
def wl (x y z c : Int) : Bool × Bool := (decide (word x ∧ word y ∧ word z ∧ word c), true)
def rowG (x : Int) : List Int → List Int → Int → Int → Log → Log
  | y :: ys, z :: zs, c, j, L => rowG x ys zs (hi x y z c) (j + 1) (wl x y z c :: jl j :: L)
  | _, _, _, _, L => je :: L
def rowDm (d : Bool) (x : Int) (ys zs : List Int) : List Int :=
  match d with
  | true => zs ++ [0]
  | false => rowF x ys zs 0
def rowE (d : Bool) (i x : Int) (ys zs : List Int) (L : Log) : Log :=
  match d with
  | true => (x == 0, true) :: jl i :: L
  | false => rowG x ys zs 0 0 ((x == 0, false) :: jl i :: L)
def ysOf (y : W4) : List Int := [y.a, y.b, y.c, y.d]
def r0 (d : Bool) (x y : W4) : List Int := rowDm d x.a (ysOf y) [0, 0, 0, 0]
def r1 (d e : Bool) (x y : W4) : List Int := rowDm e x.b (ysOf y) (r0 d x y).tail
def r2 (d e f : Bool) (x y : W4) : List Int := rowDm f x.c (ysOf y) (r1 d e x y).tail
def r3 (d e f g : Bool) (x y : W4) : List Int := rowDm g x.d (ysOf y) (r2 d e f x y).tail
def hd (l : List Int) : Int := l.headD 0
def w4T (l : List Int) : W4 := ⟨l.getD 0 0, l.getD 1 0, l.getD 2 0, l.getD 3 0⟩
def mulLog (d e f g : Bool) (x y : W4) : Log := je :: rowE g 3 x.d (ysOf y) (r2 d e f x y).tail (rowE f 2 x.c (ysOf y) (r1 d e x y).tail (rowE e 1 x.b (ysOf y) (r0 d x y).tail (rowE d 0 x.a (ysOf y) [0, 0, 0, 0] [])))
def scr (d : Bool) (s : List Dec) : List Dec :=
  match d with
  | true => cmp true :: cmp true :: s
  | false => cmp true :: cmp false :: cmp true :: cmp true :: cmp true :: cmp true :: cmp false :: s
def mulV (d e f g : Bool) (x y : W4) : Value := .tuple #[vW ⟨hd (r0 d x y), hd (r1 d e x y), hd (r2 d e f x y), hd (r3 d e f g x y)⟩, vW (w4T (r3 d e f g x y).tail)]
theorem mul_fits (x y : W4) (d e f g : Bool) : Fits (reckon (tabOf Try.prog extY conMA true) 3000 45 [vW x, vW y] (scr d (scr e (scr f (scr g [cmp false]))))) (mulV d e f g x y) (mulLog d e f g x y) := by
  cases d <;> cases e <;> cases f <;> cases g <;> exact ⟨by kernel_rfl, by kernel_rfl, by kernel_rfl, by kernel_rfl⟩
end Go.Proofs.Ytecaahiajbkioaa

/-
  Products of the seat's program, III: what wide.Mul answers is the product.
-/
namespace Go.Proofs.Ytecaahiajbkioaa
open Go.KRun Go.Wd
set_option maxRecDepth 100000

def vB : List Int → Int
  | [] => 0
  | d :: ds => d + 18446744073709551616 * vB ds
def words (l : List Int) : Prop := ∀ d ∈ l, word d
theorem lohi {x y z c : Int} (hx : word x) (hy : word y) (hz : word z) (hc : word c) : word (lo x y z c) ∧ word (hi x y z c) ∧ lo x y z c + 18446744073709551616 * hi x y z c = x * y + z + c := by
  have bd := ma_arith hx hy
  unfold lo hi word at *
  generalize x * y = p at *
  omega
theorem row_spec {x : Int} (hx : word x) : ∀ (ys zs : List Int) (c j : Int) (L : Log), words ys → words zs → word c → ys.length = zs.length → 0 ≤ j → j + ys.length ≤ 4 → okLog L →
    words (rowF x ys zs c) ∧ (rowF x ys zs c).length = ys.length + 1 ∧ vB (rowF x ys zs c) = vB zs + x * vB ys + c ∧ okLog (rowG x ys zs c j L)
  | [], [], c, j, L, _, _, hc, _, _, _, hL => by
    refine ⟨fun d hd => ?_, rfl, by simp [rowF, vB], okCons (by rfl) hL⟩
    simp only [rowF, List.mem_singleton] at hd
    rw [hd]; exact hc
  | y :: ys, z :: zs, c, j, L, hy, hz, hc, hl, h0, hj, hL => by
    have y1 := hy y List.mem_cons_self
    have z1 := hz z List.mem_cons_self
    obtain ⟨e1, e2, e3⟩ := lohi hx y1 z1 hc
    simp only [List.length_cons] at hl hj
    obtain ⟨g1, g2, g3, g4⟩ := row_spec hx ys zs (hi x y z c) (j + 1) (wl x y z c :: jl j :: L) (fun d hd => hy d (List.mem_cons_of_mem _ hd)) (fun d hd => hz d (List.mem_cons_of_mem _ hd)) e2 (by omega) (by omega) (by omega)
      (okCons (decide_eq_true ⟨hx, y1, z1, hc⟩) (okCons (decide_eq_true (by omega : j < 4)) hL))
    refine ⟨fun d hd => ?_, by simp only [rowF, List.length_cons, g2], ?_, g4⟩
    · simp only [rowF] at hd
      rcases List.mem_cons.1 hd with rfl | hd
      · exact e1
      · exact g1 d hd
    · simp only [rowF, vB]
      rw [g3]
      have : x * (y + 18446744073709551616 * vB ys) = x * y + 18446744073709551616 * (x * vB ys) := by rw [Int.mul_add, Int.mul_left_comm]
      rw [this]
      generalize x * vB ys = q at *
      generalize x * y = p at *
      omega
  | [], _ :: _, _, _, _, _, _, _, hl, _, _, _ => by simp at hl
  | _ :: _, [], _, _, _, _, _, _, hl, _, _, _ => by simp at hl
theorem vB_snoc0 : ∀ l : List Int, vB (l ++ [0]) = vB l
  | [] => rfl
  | d :: ds => by simp only [List.cons_append, vB, vB_snoc0 ds]
theorem rowDm_spec {x i : Int} (hx : word x) (hi : i < 4) {ys zs : List Int} (hy : words ys) (hz : words zs) (ly : ys.length = 4) (lz : zs.length = 4) {L : Log} (hL : okLog L) :
    ∃ h t, rowDm (x == 0) x ys zs = h :: t ∧ word h ∧ words t ∧ t.length = 4 ∧ h + 18446744073709551616 * vB t = vB zs + x * vB ys ∧ okLog (rowE (x == 0) i x ys zs L) := by
  have key : words (rowDm (x == 0) x ys zs) ∧ (rowDm (x == 0) x ys zs).length = 5 ∧ vB (rowDm (x == 0) x ys zs) = vB zs + x * vB ys ∧ okLog (rowE (x == 0) i x ys zs L) := by
    have ji : (jl i).1 = (jl i).2 := decide_eq_true hi
    by_cases h : x = 0
    · have hb : (x == 0) = true := beq_iff_eq.2 h
      rw [hb]
      refine ⟨fun d hd => ?_, by simp [rowDm, lz], ?_, okCons hb (okCons ji hL)⟩
      · simp only [rowDm] at hd
        rcases List.mem_append.1 hd with hd | hd
        · exact hz d hd
        · rw [List.mem_singleton.1 hd]; unfold word; omega
      · simp only [rowDm, vB_snoc0]
        rw [h]; omega
    · have hb : (x == 0) = false := beq_eq_false_iff_ne.2 h
      rw [hb]
      obtain ⟨g1, g2, g3, g4⟩ := row_spec hx ys zs 0 0 ((x == 0, false) :: jl i :: L) hy hz (by unfold word; omega) (by omega) (by omega) (by omega) (okCons hb (okCons ji hL))
      exact ⟨g1, by simp only [rowDm]; omega, by simp only [rowDm]; omega, g4⟩
  obtain ⟨k1, k2, k3, k4⟩ := key
  match hr : rowDm (x == 0) x ys zs, k1, k2, k3 with
  | h :: t, k1, k2, k3 =>
    exact ⟨h, t, rfl, k1 h List.mem_cons_self, fun d hd => k1 d (List.mem_cons_of_mem _ hd), by simpa using k2, k3, k4⟩
def mulV4 (x y : W4) : Value := .tuple #[vW (W4.of (x.val * y.val)), vW (W4.of (x.val * y.val / 115792089237316195423570985008687907853269984665640564039457584007913129639936))]
theorem ysOf_val (y : W4) : vB (ysOf y) = y.val := by unfold ysOf W4.val; simp only [vB]; omega
theorem mul_calls (x y : W4) (hx : x.ok) (hy : y.ok) (w : World) : Calls Try.prog 45 #[vW x, vW y] w fun e w' => e = .returned (mulV4 x y) ∧ Tidy w w' := by
  obtain ⟨x0, x1, x2, x3⟩ := hx
  have wy : words (ysOf y) := fun d hd => by
    obtain ⟨y0, y1, y2, y3⟩ := hy
    unfold ysOf at hd
    simp only [List.mem_cons, List.not_mem_nil, or_false] at hd
    rcases hd with rfl | rfl | rfl | rfl
    · exact y0
    · exact y1
    · exact y2
    · exact y3
  have wz : words [0, 0, 0, 0] := fun d hd => by
    simp only [List.mem_cons, List.not_mem_nil, or_false, or_self] at hd
    rw [hd]; unfold word; omega
  obtain ⟨h0, t0, e0, a0, b0, l0, v0, g0⟩ := rowDm_spec (x := x.a) (i := 0) x0 (by omega) wy wz rfl rfl okNil
  obtain ⟨h1, t1, e1, a1, b1, l1, v1, g1⟩ := rowDm_spec (x := x.b) (i := 1) x1 (by omega) wy b0 rfl l0 g0
  obtain ⟨h2, t2, e2, a2, b2, l2, v2, g2⟩ := rowDm_spec (x := x.c) (i := 2) x2 (by omega) wy b1 rfl l1 g1
  obtain ⟨h3, t3, e3, a3, b3, l3, v3, g3⟩ := rowDm_spec (x := x.d) (i := 3) x3 (by omega) wy b2 rfl l2 g2
  have E0 : r0 (x.a == 0) x y = h0 :: t0 := e0
  have E1 : r1 (x.a == 0) (x.b == 0) x y = h1 :: t1 := by unfold r1; rw [E0]; exact e1
  have E2 : r2 (x.a == 0) (x.b == 0) (x.c == 0) x y = h2 :: t2 := by unfold r2; rw [E1]; exact e2
  have E3 : r3 (x.a == 0) (x.b == 0) (x.c == 0) (x.d == 0) x y = h3 :: t3 := by unfold r3; rw [E2]; exact e3
  have h := fits_calls (tabY_ok conMA_ok) (mul_fits x y (x.a == 0) (x.b == 0) (x.c == 0) (x.d == 0)) (by
    unfold mulLog
    rw [E0, E1, E2]
    exact okCons (by rfl) g3) (by rfl) (by rfl) w
  have hv : mulV (x.a == 0) (x.b == 0) (x.c == 0) (x.d == 0) x y = mulV4 x y := by
    unfold mulV mulV4
    rw [E0, E1, E2, E3]
    match t3, l3, b3, v3 with
    | [q0, q1, q2, q3], _, b3, v3 =>
      simp only [hd, List.headD_cons, List.tail_cons, w4T, List.getD_cons_zero, List.getD_cons_succ]
      have ok1 : (⟨h0, h1, h2, h3⟩ : W4).ok := ⟨a0, a1, a2, a3⟩
      have ok2 : (⟨q0, q1, q2, q3⟩ : W4).ok := ⟨b3 q0 (by simp), b3 q1 (by simp), b3 q2 (by simp), b3 q3 (by simp)⟩
      have key : x.val * y.val = (⟨h0, h1, h2, h3⟩ : W4).val + 115792089237316195423570985008687907853269984665640564039457584007913129639936 * (⟨q0, q1, q2, q3⟩ : W4).val := by
        rw [ysOf_val] at v0 v1 v2 v3
        rw [val_mul x y.val]
        generalize x.a * y.val = p0 at *
        generalize x.b * y.val = p1 at *
        generalize x.c * y.val = p2 at *
        generalize x.d * y.val = p3 at *
        simp only [vB] at v0 v1 v2 v3
        unfold W4.val
        dsimp only
        omega
      have bd1 := W4.val_bd ok1
      have eL : W4.of (x.val * y.val) = ⟨h0, h1, h2, h3⟩ := W4.of_eq ok1 key
      have eH : x.val * y.val / 115792089237316195423570985008687907853269984665640564039457584007913129639936 = (⟨q0, q1, q2, q3⟩ : W4).val := by rw [key]; omega
      rw [eL, eH, W4.of_val ok2]
  rw [hv] at h
  exact h
end Go.Proofs.Ytecaahiajbkioaa

/-
  PLAIN ARITHMETIC: products of patterns' numbers, and with a third one added, rounded; what rounding a product left.
-/
namespace Go.Rn
open Go.Nt Go.Wd Go.Pt

/-- a product's sign, size and power -/
def prN (a b : Int) : Bool := sgn a != sgn b
def prV (a b : Int) : Nat := (sg a).toNat * (sg b).toNat
def prE (a b : Int) : Int := xp a + xp b
theorem prN_comm (a b : Int) : prN a b = prN b a := by unfold prN; cases sgn a <;> cases sgn b <;> rfl
theorem prV_comm (a b : Int) : prV a b = prV b a := Nat.mul_comm _ _
theorem prE_comm (a b : Int) : prE a b = prE b a := by unfold prE; omega
theorem prE_bd (a b : Int) : -2148 ≤ prE a b ∧ prE a b ≤ 1944 := by
  have h1 := xp_bd a
  have h2 := xp_bd b
  unfold prE
  omega
theorem prV_lt (a b : Int) : prV a b < 81129638414606681695789005144064 := by
  have h1 := sg_lt a
  have h2 := sg_lt b
  have := Nat.mul_le_mul (show (sg a).toNat ≤ 9007199254740991 by omega) (show (sg b).toNat ≤ 9007199254740991 by omega)
  unfold prV
  omega
theorem may_prod (a b : Int) : May (prE a b) (prV a b) := by
  have h1 := prE_bd a b
  have h2 := prV_lt a b
  refine ⟨?_, by omega, by omega⟩
  have : (2 : Nat) ^ 128 = 340282366920938463463374607431768211456 := rfl
  omega
/-- the product, rounded -/
def mlP (m a b : Int) : Int := rnP m (prN a b) (prV a b) (prE a b)
def mlF (m a b : Int) : Int := rnF m (prN a b) (prV a b) (prE a b)
theorem ml_comm (m a b : Int) : mlP m a b = mlP m b a ∧ mlF m a b = mlF m b a := by
  unfold mlP mlF
  rw [prN_comm, prV_comm, prE_comm]
  exact ⟨rfl, rfl⟩
theorem ml_bd (m a b : Int) : 0 ≤ mlP m a b ∧ mlP m a b ≤ 9218868437227405312 := rnP_bd _ _ _ _
/-- the product and a third number, in units of 2^-2148; its sign; rounded -/
def fsI (a b c : Int) : Int := smI (-2148) (prN a b) (prE a b) (prV a b) (sgn c) (xp c) (sg c).toNat
def fsN (m a b c : Int) : Bool := sgS m (prN a b) (sgn c) (fsI a b c)
def fsP (m a b c : Int) : Int := rnP m (fsN m a b c) (fsI a b c).natAbs (-2148)
def fsF (m a b c : Int) : Int := rnF m (fsN m a b c) (fsI a b c).natAbs (-2148)
theorem fsI_comm (a b c : Int) : fsI a b c = fsI b a c := by unfold fsI; rw [prN_comm, prV_comm, prE_comm]
theorem fsN_comm (m a b c : Int) : fsN m a b c = fsN m b a c := by unfold fsN; rw [fsI_comm, prN_comm]
theorem fs_comm (m a b c : Int) : fsP m a b c = fsP m b a c ∧ fsF m a b c = fsF m b a c := by
  unfold fsP fsF
  rw [fsN_comm, fsI_comm]
  exact ⟨rfl, rfl⟩
theorem fs_bd (m a b c : Int) : 0 ≤ fsP m a b c ∧ fsP m a b c ≤ 9218868437227405312 := rnP_bd _ _ _ _

/-! ### with nothing added -/
theorem szF_zero (F E : Int) : szF F E 0 = 0 := by unfold szF; simp
theorem fs_zero {m a b c : Int} (h0 : sg c = 0) (hs : sgn c = prN a b) : fsN m a b c = prN a b ∧ fsP m a b c = mlP m a b ∧ fsF m a b c = mlF m a b := by
  have hE := prE_bd a b
  have e0 : fsI a b c = sgI (prN a b) (szF (-2148) (prE a b) (prV a b)) := by
    unfold fsI smI
    rw [h0, Int.toNat_zero, szF_zero]
    cases sgn c <;> simp [sgI]
  have ea : (fsI a b c).natAbs = szF (-2148) (prE a b) (prV a b) := by rw [e0]; exact sgI_abs _ _
  have hn : fsN m a b c = prN a b := by
    unfold fsN sgS
    by_cases hz : fsI a b c = 0
    · rw [if_pos hz, hs, if_pos rfl]
    · rw [if_neg hz, e0]
      refine (sgI_neg fun h => hz ?_).1
      rw [e0, h]
      cases prN a b <;> rfl
  have sp := rnP_scale m (prN a b) (prV a b) (prE a b - -2148).toNat (prE a b)
  have sf := rnF_scale m (prN a b) (prV a b) (prE a b - -2148).toNat (prE a b)
  have eE : prE a b - ((prE a b - -2148).toNat : Int) = -2148 := by omega
  rw [eE] at sp sf
  refine ⟨hn, ?_, ?_⟩
  · unfold fsP mlP; rw [hn, ea]; exact sp
  · unfold fsF mlF; rw [hn, ea]; exact sf

/-! ### times 1 -/
theorem one_num : sgn 4607182418800017408 = false ∧ xp 4607182418800017408 = -52 ∧ sg 4607182418800017408 = 4503599627370496 := by decide
theorem ml_one {m a : Int} (hf : ex a ≠ 2047) : prN a 4607182418800017408 = sgn a ∧ mlP m a 4607182418800017408 = mag a ∧ mlF m a 4607182418800017408 = 0 := by
  obtain ⟨o1, o2, o3⟩ := one_num
  have hn : prN a 4607182418800017408 = sgn a := by unfold prN; rw [o1]; cases sgn a <;> rfl
  have hv : prV a 4607182418800017408 = (sg a).toNat * 2 ^ 52 := by unfold prV; rw [o3]; rfl
  have he : prE a 4607182418800017408 = xp a - ((52 : Nat) : Int) := by unfold prE; rw [o2]; omega
  obtain ⟨q1, q2⟩ := own_pat (m := m) (neg := sgn a) hf
  unfold mlP mlF
  rw [hn, hv, he, rnP_scale, rnF_scale, q1, q2]
  exact ⟨rfl, rfl, rfl⟩

/-! ### the other sign -/
theorem prN_ng {a : Int} (ha : U a) (b : Int) : prN (ng a) b = !prN a b := by
  unfold prN
  rw [(ng_parts ha).2.1]
  cases sgn a <;> cases sgn b <;> rfl
theorem ml_ng {m a : Int} (ha : U a) (b : Int) : mlP (swM m) (ng a) b = mlP m a b ∧ mlF (swM m) (ng a) b = mlF m a b := by
  obtain ⟨e1, e2, _⟩ := ng_num ha
  unfold mlP mlF
  have eV : prV (ng a) b = prV a b := by unfold prV; rw [e2]
  have eE : prE (ng a) b = prE a b := by unfold prE; rw [e1]
  rw [prN_ng ha, eV, eE, rnP_swM, rnF_swM]
  exact ⟨rfl, rfl⟩
theorem ml_ng2 {m a b : Int} (ha : U a) (hb : U b) : prN (ng a) (ng b) = prN a b ∧ mlP m (ng a) (ng b) = mlP m a b ∧ mlF m (ng a) (ng b) = mlF m a b := by
  obtain ⟨e1, e2, _⟩ := ng_num ha
  obtain ⟨f1, f2, _⟩ := ng_num hb
  have eN : prN (ng a) (ng b) = prN a b := by rw [prN_ng ha, prN_comm, prN_ng hb, Bool.not_not, prN_comm]
  have eV : prV (ng a) (ng b) = prV a b := by unfold prV; rw [e2, f2]
  have eE : prE (ng a) (ng b) = prE a b := by unfold prE; rw [e1, f1]
  unfold mlP mlF
  rw [eN, eV, eE]
  exact ⟨rfl, rfl, rfl⟩

/-! ### a pattern that was rounded, as a number -/
theorem pat_num {e : Int} {q : Nat} (he : -1074 ≤ e) (hq : q ≤ 9007199254740992) (hlo : e = -1074 ∨ 4503599627370496 ≤ q) (hb : (e + 1074) * 4503599627370496 + (q : Int) < 9218868437227405312) :
    uV ((e + 1074) * 4503599627370496 + (q : Int)) = q * 2 ^ (e + 1074).toNat := by
  obtain ⟨j, hj⟩ : ∃ j : Nat, e = (j : Int) - 1074 := ⟨(e + 1074).toNat, by omega⟩
  have ej : (e + 1074).toNat = j := by omega
  have ej' : e + 1074 = (j : Int) := by omega
  rw [ej, ej']
  rw [ej'] at hb
  clear ej ej'
  unfold uV szF xp sg
  by_cases c0 : q < 4503599627370496
  · have j0 : j = 0 := by omega
    subst j0
    have ee : ex (((0 : Nat) : Int) * 4503599627370496 + (q : Int)) = 0 := by unfold ex; omega
    have ef : fr (((0 : Nat) : Int) * 4503599627370496 + (q : Int)) = (q : Int) := by unfold fr; omega
    rw [ee, ef]
    simp
  · by_cases c1 : q = 9007199254740992
    · have ee : ex ((j : Int) * 4503599627370496 + (q : Int)) = (j : Int) + 2 := by unfold ex; omega
      have ef : fr ((j : Int) * 4503599627370496 + (q : Int)) = 0 := by unfold fr; omega
      rw [ee, ef, if_neg (by omega), if_neg (by omega), if_neg (by omega), if_neg (by omega)]
      have e1 : ((j : Int) + 2 - 1075 - -1074).toNat = j + 1 := by omega
      rw [e1, c1, Nat.pow_succ]
      have e2 : ((0 : Int) + 4503599627370496).toNat = 4503599627370496 := rfl
      rw [e2]
      omega
    · have ee : ex ((j : Int) * 4503599627370496 + (q : Int)) = (j : Int) + 1 := by unfold ex; omega
      have ef : fr ((j : Int) * 4503599627370496 + (q : Int)) = (q : Int) - 4503599627370496 := by unfold fr; omega
      rw [ee, ef, if_neg (by omega), if_neg (by omega), if_neg (by omega), if_neg (by omega)]
      have e1 : ((j : Int) + 1 - 1075 - -1074).toNat = j := by omega
      have e2 : ((q : Int) - 4503599627370496 + 4503599627370496).toNat = q := by omega
      rw [e1, e2]
/-- what was rounded, and is finite -/
theorem rn_num {m : Int} {n : Bool} {T : Nat} {E : Int} (hT : T ≠ 0) (h : rnF m n T E = 0 ∨ rnF m n T E = 16 ∨ rnF m n T E = 24) :
    p0 m n T E < 9218868437227405312 ∧ rnP m n T E = p0 m n T E ∧ uV (rnP m n T E) = toQ m n T E (lowE T E) * 2 ^ (lowE T E + 1074).toNat ∧ (rnF m n T E = 0 ↔ toL T E (lowE T E) = false) := by
  have hb : p0 m n T E < 9218868437227405312 := by
    unfold rnF at h
    rw [if_neg hT] at h
    by_cases hc : 9218868437227405312 ≤ p0 m n T E
    · rw [if_pos hc] at h; omega
    · omega
  have hp : rnP m n T E = p0 m n T E := by unfold rnP; rw [if_neg hT, if_neg (by omega)]
  have hlo : lowE T E = -1074 ∨ 4503599627370496 ≤ toQ m n T E (lowE T E) := by
    by_cases h1 : lowE T E = -1074
    · exact .inl h1
    · right
      refine low_lo hT ?_
      unfold lowE at h1
      split at h1 <;> omega
  refine ⟨hb, hp, ?_, ?_⟩
  · rw [hp]
    exact pat_num (lowE_ge T E) (low_hi m n T E) hlo hb
  · unfold rnF
    rw [if_neg hT, if_neg (by omega)]
    cases toL T E (lowE T E) with
    | false => simp
    | true =>
      rw [if_pos rfl]
      split <;> simp

/-! ### what rounding to the nearest left -/
theorem rest_half (n : Bool) (T k : Nat) : (T : Int) - (rq 0 n T k : Int) * (2 ^ k : Nat) ≤ (2 ^ k : Nat) / 2 ∧ (rq 0 n T k : Int) * (2 ^ k : Nat) - (T : Int) ≤ (2 ^ k : Nat) / 2 := by
  have hd := Nat.div_add_mod T (2 ^ k)
  have hp : 0 < 2 ^ k := Nat.pow_pos (by omega)
  have hm := Nat.mod_lt T hp
  unfold rq upR restC
  generalize T / 2 ^ k = q at *
  generalize T % 2 ^ k = r at *
  generalize 2 ^ k = P at *
  have e1 : ((q + 1 : Nat) : Int) * (P : Int) = (P : Int) * q + P := by rw [Int.natCast_add, Int.add_mul]; simp [Int.mul_comm]
  have e0 : ((q + 0 : Nat) : Int) * (P : Int) = (P : Int) * q := by rw [Nat.add_zero, Int.mul_comm]
  have hd' : (P : Int) * q + r = T := by rw [← hd]; simp
  by_cases h0 : r = 0
  · simp only [h0, if_true, Bool.false_eq_true, if_false]
    rw [e0]
    omega
  · by_cases h1 : 2 * r < P
    · simp [h0, h1]
      rw [Int.mul_comm]
      omega
    · by_cases h2 : 2 * r = P
      · by_cases ho : odd q = true
        · simp [h0, h2, ho]
          rw [Int.add_mul, Int.mul_comm]
          omega
        · simp [h0, h2, ho]
          rw [Int.mul_comm]
          omega
      · simp [h0, h1, h2]
        rw [Int.add_mul, Int.mul_comm]
        omega
/-- few bits need no rounding -/
theorem few_bits {m k : Int} {n s : Bool} {D A : Nat} {E : Int} (hE : -1074 ≤ E) (hD : D < 9007199254740992) (hDA : D ≤ A) (hA : p0 k s A E < 9218868437227405312) : rnF m n D E = 0 := by
  by_cases h0 : D = 0
  · rw [h0]; simp [rnF]
  · have hlow : lowE D E ≤ E := by
      have := len_le (T := D) (k := 53) (by have : (2 : Nat) ^ 53 = 9007199254740992 := rfl; omega)
      unfold lowE lgN
      split <;> omega
    have hl : toL D E (lowE D E) = false := by unfold toL; rw [if_pos hlow]
    have hp : p0 m n D E = p0 k s D E := by unfold p0 toQ; rw [if_pos hlow, if_pos hlow]
    have hmo := p0_mono (m := k) (neg := s) (E := E) h0 hDA
    unfold rnF
    rw [if_neg h0, hp, if_neg (by omega), hl]
    simp
/-- both sizes plain: the product, rounded to the nearest, in units of 2^-1074 -/
theorem prod_near {n : Bool} {A : Nat} {E : Int} (hE : -1074 ≤ E) (h0 : 20282409603651670423947251286016 ≤ A) (h1 : A < 81129638414606681695789005144064) (hf : rnF 0 n A E = 0 ∨ rnF 0 n A E = 16) :
    ∃ d : Int, d.natAbs < 9007199254740992 ∧ d.natAbs ≤ A ∧ p0 0 n A E < 9218868437227405312 ∧ ((A * 2 ^ (E + 1074).toNat : Nat) : Int) - (uV (rnP 0 n A E) : Int) = d * (2 ^ (E + 1074).toNat : Nat) ∧ (rnF 0 n A E = 0 ↔ d = 0) := by
  obtain ⟨q1, q2, q3, q4⟩ := rn_num (m := 0) (n := n) (T := A) (E := E) (by omega) (by omega)
  have b1 : 105 ≤ bitLen A := le_len (k := 104) (by have : (2 : Nat) ^ 104 = 20282409603651670423947251286016 := rfl; omega)
  have b2 : bitLen A ≤ 106 := len_le (by have : (2 : Nat) ^ 106 = 81129638414606681695789005144064 := rfl; omega)
  obtain ⟨k, hk⟩ : ∃ k : Nat, k = bitLen A - 53 := ⟨_, rfl⟩
  have hlow : lowE A E = E + k := by unfold lowE lgN; split <;> omega
  have ek : (E + (k : Int) - E).toNat = k := by omega
  have hQ : toQ 0 n A E (lowE A E) = rq 0 n A k := by
    rw [hlow]; unfold toQ; rw [if_neg (by omega), ek]
  have hL : toL A E (lowE A E) = decide (A % 2 ^ k ≠ 0) := by
    rw [hlow]; unfold toL; rw [if_neg (by omega), ek]
  have hP : 2 ^ k ≤ 9007199254740992 := by
    have := Nat.pow_le_pow_right (show 0 < 2 by omega) (show k ≤ 53 by omega)
    have e : (2 : Nat) ^ 53 = 9007199254740992 := rfl
    omega
  have hp : 0 < 2 ^ k := Nat.pow_pos (by omega)
  have hh := rest_half n A k
  refine ⟨(A : Int) - (rq 0 n A k : Int) * (2 ^ k : Nat), by omega, by omega, q1, ?_, ?_⟩
  · have e1 : (lowE A E + 1074).toNat = k + (E + 1074).toNat := by rw [hlow]; omega
    rw [q3, hQ, e1, Nat.pow_add, ← Nat.mul_assoc, Int.sub_mul]
    simp only [Int.natCast_mul]
  · rw [q4, hL]
    constructor
    · intro h
      have hz : A % 2 ^ k = 0 := by simpa using h
      have := Nat.div_add_mod A (2 ^ k)
      rw [rq_exact hz, ← Int.natCast_mul, Nat.mul_comm]
      omega
    · intro h
      have h2 : A = rq 0 n A k * 2 ^ k := by
        have h3 : (A : Int) = ((rq 0 n A k * 2 ^ k : Nat) : Int) := by rw [Int.natCast_mul]; omega
        exact Int.ofNat.inj h3
      rw [h2, Nat.mul_mod_left]
      rfl
/-- the sum in units of 2^-1074, where the product's power allows it -/
theorem fs_scaled {j : Nat} (hj : (j : Int) = 1074) {a b c : Int} (hE : -1074 ≤ prE a b) : fsI a b c = (sgI (prN a b) (prV a b * 2 ^ (prE a b + 1074).toNat) + pvI c) * ((2 ^ j : Nat) : Int) := by
  have hc := xp_bd c
  have e := smI_low (F := -2148) (G := -1074) (Ex := prE a b) (Ey := xp c) (by omega) hE hc.1 (prN a b) (sgn c) (prV a b) (sg c).toNat
  have e1 : ((-1074 : Int) - -2148).toNat = j := by omega
  rw [e1] at e
  unfold fsI
  rw [e]
  congr 1
theorem fs_round {j : Nat} (hj : (j : Int) = 1074) {m a b c : Int} {S : Int} (hS : fsI a b c = S * ((2 ^ j : Nat) : Int)) : fsN m a b c = sgS m (prN a b) (sgn c) S ∧ fsP m a b c = rnP m (fsN m a b c) S.natAbs (-1074) ∧ fsF m a b c = rnF m (fsN m a b c) S.natAbs (-1074) := by
  have hK : 0 < 2 ^ j := Nat.pow_pos (by omega)
  have ea : (fsI a b c).natAbs = S.natAbs * 2 ^ j := by rw [hS, Int.natAbs_mul, Int.natAbs_natCast]
  have eE : (-1074 : Int) - (j : Int) = -2148 := by omega
  have sp := rnP_scale m (fsN m a b c) S.natAbs j (-1074)
  have sf := rnF_scale m (fsN m a b c) S.natAbs j (-1074)
  rw [eE] at sp sf
  refine ⟨?_, ?_, ?_⟩
  · unfold fsN; rw [hS, sgS_mul m _ _ _ hK]
  · rw [← sp]; unfold fsP; rw [ea]
  · rw [← sf]; unfold fsF; rw [ea]
end Go.Rn
