/-
  bits.Div64, of a divisor whose highest bit is set, and wide.guess, as calls.
-/
import Derived.Test.YtnolcojnodoecaaG22
import Derived.Test.YtnolcojnodoecaaG20
namespace Go.Proofs.Ytnolcojnodoecaa
open Go.KRun Go.Wd
set_option maxRecDepth 100000

theorem s0_eq {z : Int} (h : word z) : s0 z = z := by
  unfold s0
  rw [show (2 : Int) ^ min ((IntKind.u64.wrap 0).toNat) 64 = 1 from rfl, Int.mul_one]
  exact wrap_u64' h.1 h.2
theorem s64_eq {z : Int} (h : word z) : s64 z = 0 := by
  unfold s64
  rw [show (2 : Int) ^ min ((IntKind.u64.wrap (64 - IntKind.u64.wrap 0)).toNat) 64 = 18446744073709551616 from rfl, Int.fdiv_eq_ediv_of_nonneg _ (by omega)]
  exact Int.ediv_eq_zero_of_lt h.1 h.2
theorem oE_eq {hi lo : Int} (h : word hi) (hl : word lo) : oE hi lo = hi := by
  unfold oE orq
  rw [s0_eq h, s64_eq hl, show BitVec.ofInt 64 0 = 0#64 from rfl, BitVec.or_zero]
  have e1 : (BitVec.ofInt 64 hi).toNat = hi.toNat := by
    rw [BitVec.toNat_ofInt]
    unfold word at h
    omega
  rw [e1, wrap_u64]
  unfold word at h
  omega
theorem rE_eq {n d : Int} (h : 0 ≤ n ∧ n < 18446744073709551616) (hd : 0 < d) : rEW n (n / d) d = n % d ∧ n = n / d * d + n % d ∧ 0 ≤ n % d ∧ n % d < d := by
  have e := Int.mul_ediv_add_emod n d
  have m1 := Int.emod_nonneg n (show d ≠ 0 by omega)
  have m2 := Int.emod_lt_of_pos n hd
  rw [Int.mul_comm] at e
  have m3 : 0 ≤ n / d * d := Int.mul_nonneg (Int.ediv_nonneg h.1 (by omega)) (by omega)
  refine ⟨?_, by omega, m1, m2⟩
  unfold rEW
  rw [wrap_u64, wrap_u64]
  generalize n / d * d = t at *
  omega
theorem mE_eq {n u q y : Int} (h0 : 0 ≤ n * 4294967296 + u - q * y) (h1 : n * 4294967296 + u - q * y < 18446744073709551616) : mE n u q y = n * 4294967296 + u - q * y := by
  unfold mE
  simp only [wrap_u64]
  generalize q * y = t at *
  omega
theorem dgt_rest (n1 n0 n u : Int) (hD : 0 < n1 * 4294967296 + n0) : 0 ≤ n * 4294967296 + u - dgt n1 n0 n u * (n1 * 4294967296 + n0) ∧ n * 4294967296 + u - dgt n1 n0 n u * (n1 * 4294967296 + n0) < n1 * 4294967296 + n0 := by
  unfold dgt
  have e := Int.mul_ediv_add_emod (n * 4294967296 + u) (n1 * 4294967296 + n0)
  have m1 := Int.emod_nonneg (n * 4294967296 + u) (show n1 * 4294967296 + n0 ≠ 0 by omega)
  have m2 := Int.emod_lt_of_pos (n * 4294967296 + u) hD
  rw [Int.mul_comm] at e
  generalize (n * 4294967296 + u) / (n1 * 4294967296 + n0) * (n1 * 4294967296 + n0) = t at *
  omega
theorem dig_begin {n1 n0 n u : Int} (h1 : 2147483648 ≤ n1 ∧ n1 < 4294967296) (h0 : 0 ≤ n0 ∧ n0 < 4294967296) (hn : 0 ≤ n ∧ n < n1 * 4294967296 + n0) (hu : 0 ≤ u ∧ u < 4294967296) : Dig n1 n0 n u (n / n1) (rEW n (n / n1) n1) := by
  obtain ⟨e1, e2, e3, e4⟩ := rE_eq (n := n) (d := n1) ⟨hn.1, by omega⟩ (by omega)
  refine ⟨h1, h0, hn, hu, by rw [e1]; omega, by rw [e1]; exact e2, ?_⟩
  exact (guess_low (B := 4294967296) (by omega) (by omega) h0.1 hu.2 (Int.ediv_nonneg (by omega) (by omega)) (by omega)).1
theorem wrapq {n n1 : Int} (hn : 0 ≤ n ∧ n < 18446744073709551616) (h1 : 2147483648 ≤ n1) : (decide (IntKind.u64.wrap (n.tdiv n1) = n / n1), true).1 = (decide (IntKind.u64.wrap (n.tdiv n1) = n / n1), true).2 := by
  refine decide_eq_true ?_
  have a : 0 ≤ n / n1 := Int.ediv_nonneg hn.1 (by omega)
  have b : n / n1 ≤ n := Int.ediv_le_self _ hn.1
  rw [Int.tdiv_eq_ediv_of_nonneg hn.1, wrap_u64' a (by omega)]
def divV (hi lo y : Int) : Value := .tuple #[u_ ((hi * 18446744073709551616 + lo) / y), u_ ((hi * 18446744073709551616 + lo) % y)]
theorem div_calls (hi lo y : Int) (hh : word hi) (hl : word lo) (hy : 9223372036854775808 ≤ y ∧ y < 18446744073709551616) (hlt : hi < y) (w : World) : Calls Try.prog 93 #[u_ hi, u_ lo, u_ y] w fun e w' => e = .returned (divV hi lo y) ∧ Tidy w w' := by
  unfold word at hh hl
  by_cases hz : hi = 0
  · subst hz
    have h := fits_calls (tabY_ok conZ_ok) (div_zero lo y) (okCons (decide_eq_false (by omega : ¬ y = 0)) (okCons (decide_eq_false (by omega : ¬ y = 0)) (okCons (wrapq hl (by omega)) (okCons (by rfl) (okCons (decide_eq_false (by omega : ¬ y ≤ 0)) (okL1 (beq_eq_false_iff_ne.2 (by omega : y ≠ 0)))))))) (by rfl) (by rfl) w
    unfold divV
    rw [Int.zero_mul, Int.zero_add]
    rw [Int.tmod_eq_emod_of_nonneg hl.1] at h
    exact h
  · have wy : word y := ⟨by omega, hy.2⟩
    have ey := Int.mul_ediv_add_emod y 4294967296
    have el := Int.mul_ediv_add_emod lo 4294967296
    have b1 : 2147483648 ≤ y / 4294967296 ∧ y / 4294967296 < 4294967296 := by omega
    have b0 : 0 ≤ y % 4294967296 ∧ y % 4294967296 < 4294967296 := by omega
    have c1 : 0 ≤ lo / 4294967296 ∧ lo / 4294967296 < 4294967296 := by omega
    have c0 : 0 ≤ lo % 4294967296 ∧ lo % 4294967296 < 4294967296 := by omega
    have pre := div_pre hi lo y (hi / (y / 4294967296))
    rw [s0_eq wy, s0_eq hl, oE_eq hh hl, hi32_eq, hi32_eq, lo32_eq wy.1 wy.2, lo32_eq hl.1 hl.2] at pre
    have ey' : y = y / 4294967296 * 4294967296 + y % 4294967296 := by omega
    generalize y / 4294967296 = n1 at *
    generalize y % 4294967296 = n0 at *
    generalize lo / 4294967296 = u1 at *
    generalize lo % 4294967296 = u0 at *
    have D1 := dig_begin (n := hi) b1 b0 (by omega) c1
    have rg1 := D1.range
    have rs1 := dgt_rest n1 n0 hi u1 (by omega)
    have em : mE hi u1 (dgt n1 n0 hi u1) y = hi * 4294967296 + u1 - dgt n1 n0 hi u1 * y := mE_eq (by rw [ey']; omega) (by rw [ey']; omega)
    have rm : 0 ≤ mE hi u1 (dgt n1 n0 hi u1) y ∧ mE hi u1 (dgt n1 n0 hi u1) y < n1 * 4294967296 + n0 := by rw [em, ey']; exact rs1
    generalize hq1 : dgt n1 n0 hi u1 = q1 at *
    generalize hm : mE hi u1 q1 y = m at *
    have D2 := dig_begin (n := m) b1 b0 rm c0
    have rg2 := D2.range
    have rs2 := dgt_rest n1 n0 m u0 (by omega)
    have ee : mE m u0 (dgt n1 n0 m u0) y = m * 4294967296 + u0 - dgt n1 n0 m u0 * y := mE_eq (by rw [ey']; omega) (by rw [ey']; omega)
    refine calls_of_runs (T := (tabOf Try.prog extY conZ true)) Try.func93 div_body (vals := [u_ hi, u_ lo, u_ y]) (by rfl) (by rfl) (goesT_list (tabY_ok conZ_ok) pre.t
      (okCons (decide_eq_false (by omega : ¬ n1 = 0)) (okCons (wrapq hh b1.1) (okCons l32_ok (okCons l32_ok (okCons l32_ok (okCons l32_ok (okCons l32_ok (okCons l32_ok (okCons (decide_eq_true hy) (okCons (beq_eq_false_iff_ne.2 hz) (okCons (decide_eq_false (by omega : ¬ y ≤ hi)) (okL1 (beq_eq_false_iff_ne.2 (by omega : y ≠ 0))))))))))))))
      fun g => ?_) w
    refine Runs.seq (P1 := fun e z => e = none ∧ (∃ rh g, z.1 = dFr (u_ hi) (u_ lo) (u_ y) undef undef undef (u_ 0) (u_ 0) (u_ 0) (u_ n1) (u_ n0) (u_ hi) (u_ lo) (u_ u1) (u_ u0) (u_ q1) (u_ rh) undef undef ++ tl 116 g) ∧ z.2.1 = ⟨0, []⟩) ?_ ?_ (fun e z he => by cases he.1)
    · refine (d1_loop (u_ hi) (u_ lo) (u_ y) undef undef undef (u_ 0) (u_ 0) (u_ 0) (u_ hi) (u_ lo) (u_ u0) undef undef n1 n0 hi u1 _ _ D1 g []).mono fun e z he => ?_
      rw [hq1] at he
      match e, he with
      | none, he => exact ⟨rfl, he⟩
    rintro ⟨t, h', s⟩ ⟨_, ⟨rh, g1, ht⟩, hh'⟩
    simp only at ht hh'
    subst ht hh'
    have mid := div_mid (u_ hi) (u_ lo) undef undef undef (u_ 0) (u_ 0) (u_ 0) (u_ n0) (u_ lo) (u_ u0) (u_ rh) undef undef y n1 hi u1 q1 (m / n1) g1
    rw [hm] at mid
    refine goesT_list (tabY_ok conZ_ok) mid.t (okCons (decide_eq_false (by omega : ¬ n1 = 0)) (okL1 (wrapq (n := m) (by omega) b1.1))) fun g2 => ?_
    refine Runs.seq (P1 := fun e z => e = none ∧ (∃ rh g, z.1 = dFr (u_ hi) (u_ lo) (u_ y) undef undef undef (u_ 0) (u_ 0) (u_ 0) (u_ n1) (u_ n0) (u_ hi) (u_ lo) (u_ u1) (u_ u0) (u_ q1) (u_ rh) (u_ m) (u_ (dgt n1 n0 m u0)) ++ tl 116 g) ∧ z.2.1 = ⟨0, []⟩) ?_ ?_ (fun e z he => by cases he.1)
    · refine (d2_loop (u_ hi) (u_ lo) (u_ y) undef undef undef (u_ 0) (u_ 0) (u_ 0) (u_ hi) (u_ lo) (u_ u1) (u_ q1) (u_ m) n1 n0 m u0 _ _ D2 g2 []).mono fun e z he => ?_
      match e, he with
      | none, he => exact ⟨rfl, he⟩
    rintro ⟨t, h', s⟩ ⟨_, ⟨rh2, g3, ht⟩, hh'⟩
    simp only at ht hh'
    subst ht hh'
    generalize hq0 : dgt n1 n0 m u0 = q0 at *
    refine (goesT_runs (tabY_ok conZ_ok) (div_end (u_ hi) (u_ lo) undef undef undef (u_ 0) (u_ 0) (u_ n1) (u_ n0) (u_ hi) (u_ lo) (u_ u1) (u_ rh2) y u0 q1 m q0 g3).t (okL1 (by rfl))).mono fun e z he => ?_
    obtain ⟨rfl, ⟨g4, h2⟩, h3⟩ := he
    refine ⟨.inr rfl, ?_⟩
    have eq : IntKind.u64.wrap (IntKind.u64.wrap (q1 * 4294967296) + q0) = q1 * 4294967296 + q0 := by rw [wrap_u64, wrap_u64]; omega
    have er : (mE m u0 q0 y).fdiv (2 ^ min ((0 : Int).toNat) 64) = m * 4294967296 + u0 - q0 * y := by
      rw [show (2 : Int) ^ min ((0 : Int).toNat) 64 = 1 from rfl, Int.fdiv_one, ee]
    have key : hi * 18446744073709551616 + lo = y * (q1 * 4294967296 + q0) + (m * 4294967296 + u0 - q0 * y) := by
      have k1 : y * (q1 * 4294967296 + q0) = 4294967296 * (q1 * y) + q0 * y := by
        rw [Int.mul_add, Int.mul_comm y q0, Int.mul_comm y, Int.mul_assoc, Int.mul_comm 4294967296 y, ← Int.mul_assoc, Int.mul_comm (q1 * y)]
      rw [k1]
      generalize q1 * y = t1 at em ⊢
      generalize q0 * y = t0
      omega
    have ry : 0 ≤ m * 4294967296 + u0 - q0 * y ∧ m * 4294967296 + u0 - q0 * y < y := by
      rw [← ey'] at rs2
      exact rs2
    have fq : (hi * 18446744073709551616 + lo) / y = q1 * 4294967296 + q0 := ediv_of key ry.1 ry.2
    have fr : (hi * 18446744073709551616 + lo) % y = m * 4294967296 + u0 - q0 * y := by
      rw [key, Int.mul_add_emod_self_left, Int.emod_eq_of_lt ry.1 ry.2]
    unfold divV
    rw [h2, h3, eq, er, fq, fr]
    rfl
end Go.Proofs.Ytnolcojnodoecaa

/-
  Products of the seat's program, II: wide.mulAdd and wide.Mul, as calls: what they answer of any numbers, in every world.
-/
namespace Go.Proofs.Ytnolcojnodoecaa
open Go.KRun Go.Wd
set_option maxRecDepth 100000

def u1m : Value → Option Int
  | .int .u64 n => some n
  | _ => none
theorem u1m_spec {v : Value} {n : Int} (h : u1m v = some n) : v = u_ n := by
  unfold u1m at h
  split at h
  · cases h; rfl
  · cases h
def gMul : Ans := fun vals s =>
  match vals with
  | [x, y] =>
    match u1m x, u1m y with
    | some a, some b => some (.tuple #[u_ (a * b / 18446744073709551616), u_ (a * b % 18446744073709551616)], s, [(decide (word a ∧ word b), true)])
    | _, _ => none
  | _ => none
theorem gMul_ok : AnsOk 91 gMul := by
  intro vals s v s' lg h hl w
  unfold gMul at h
  split at h
  · split at h
    · rename_i a b ha hb
      cases h
      have h1 := hl _ (List.mem_singleton.2 rfl)
      simp only [decide_eq_true_eq] at h1
      rw [u1m_spec ha, u1m_spec hb]
      exact mul64_calls a b h1.1 h1.2 w
    · cases h
  · cases h
def conM : Con := alt 91 gMul conN
theorem conM_ok : ConOk conM := alt_ok Try.func91 rfl gMul_ok conN_ok
def pL (x y m : Int) : Int := Wd.ad (x * y % 18446744073709551616) m 0
def oA (x y c : Int) : Bool × Bool := (decide (0 ≤ x ∧ 0 ≤ y ∧ 0 ≤ c ∧ c ≤ 1), true)
theorem ma_fits (x y m c : Int) : Fits (reckon (tabOf Try.prog extY conM true) 3000 84 [u_ x, u_ y, u_ m, u_ c] [])
    (.tuple #[u_ (Wd.ad (pL x y m) c 0), u_ (IntKind.u64.wrap (IntKind.u64.wrap (x * y / 18446744073709551616 + ca (x * y % 18446744073709551616) m 0) + ca (pL x y m) c 0))])
    [oA (pL x y m) c 0, oA (x * y % 18446744073709551616) m 0, (decide (word x ∧ word y), true)] := ⟨by kernel_rfl, by kernel_rfl, by kernel_rfl, by kernel_rfl⟩
theorem ma_arith {x y : Int} (hx : word x) (hy : word y) : 0 ≤ x * y ∧ x * y ≤ 340282366920938463426481119284349108225 := by
  refine ⟨Int.mul_nonneg hx.1 hy.1, ?_⟩
  have := Int.mul_le_mul (show x ≤ 18446744073709551615 by omega) (show y ≤ 18446744073709551615 by omega) hy.1 (by omega)
  omega
theorem ma_calls (x y m c : Int) (hx : word x) (hy : word y) (hm : word m) (hc : word c) (w : World) : Calls Try.prog 84 #[u_ x, u_ y, u_ m, u_ c] w fun e w' =>
    e = .returned (.tuple #[u_ ((x * y + m + c) % 18446744073709551616), u_ ((x * y + m + c) / 18446744073709551616)]) ∧ Tidy w w' := by
  have bd := ma_arith hx hy
  have h := fits_calls (tabY_ok conM_ok) (ma_fits x y m c) (okCons (decide_eq_true (by unfold pL Wd.ad; omega)) (okCons (decide_eq_true (by omega)) (okL1 (decide_eq_true ⟨hx, hy⟩)))) (by rfl) (by rfl) w
  have e1 : Wd.ad (pL x y m) c 0 = (x * y + m + c) % 18446744073709551616 := by unfold pL Wd.ad; omega
  have e2 : IntKind.u64.wrap (IntKind.u64.wrap (x * y / 18446744073709551616 + ca (x * y % 18446744073709551616) m 0) + ca (pL x y m) c 0) = (x * y + m + c) / 18446744073709551616 := by
    unfold pL ca Wd.ad
    rw [wrap_u64, wrap_u64]
    omega
  rw [e1, e2] at h
  exact h
def gMA : Ans := fun vals s =>
  match vals with
  | [x, y, m, c] =>
    match u1m x, u1m y, u1m m, u1m c with
    | some x, some y, some m, some c => some (.tuple #[u_ ((x * y + m + c) % 18446744073709551616), u_ ((x * y + m + c) / 18446744073709551616)], s, [(decide (word x ∧ word y ∧ word m ∧ word c), true)])
    | _, _, _, _ => none
  | _ => none
theorem gMA_ok : AnsOk 84 gMA := by
  intro vals s v s' lg h hl w
  unfold gMA at h
  split at h
  · split at h
    · rename_i x y m c hx hy hm hc
      cases h
      have h1 := hl _ (List.mem_singleton.2 rfl)
      simp only [decide_eq_true_eq] at h1
      rw [u1m_spec hx, u1m_spec hy, u1m_spec hm, u1m_spec hc]
      exact ma_calls _ _ _ _ h1.1 h1.2.1 h1.2.2.1 h1.2.2.2 w
    · cases h
  · cases h
def conMA : Con := alt 84 gMA conN
theorem conMA_ok : ConOk conMA := alt_ok Try.func84 rfl gMA_ok conN_ok

/-! ### a row of the product, and the product -/
def lo (x y z c : Int) : Int := (x * y + z + c) % 18446744073709551616
def hi (x y z c : Int) : Int := (x * y + z + c) / 18446744073709551616
def rowF (x : Int) : List Int → List Int → Int → List Int
  | y :: ys, z :: zs, c => lo x y z c :: rowF x ys zs (hi x y z c)
  | _, _, c => [c]
def jl (j : Int) : Bool × Bool := (decide (j < 4), true)
def je : Bool × Bool := (decide ((4 : Int) < 4), false)
def wl (x y z c : Int) : Bool × Bool := (decide (word x ∧ word y ∧ word z ∧ word c), true)
def rowG (x : Int) : List Int → List Int → Int → Int → Log → Log
  | y :: ys, z :: zs, c, j, L => rowG x ys zs (hi x y z c) (j + 1) (wl x y z c :: jl j :: L)
  | _, _, _, _, L => je :: L
def rowDm (d : Bool) (x : Int) (ys zs : List Int) : List Int :=
  match d with
  | true => zs ++ [0]
  | false => rowF x ys zs 0
def rowE (d : Bool) (i x : Int) (ys zs : List Int) (L : Log) : Log :=
  match d with
  | true => (x == 0, true) :: jl i :: L
  | false => rowG x ys zs 0 0 ((x == 0, false) :: jl i :: L)
def ysOf (y : W4) : List Int := [y.a, y.b, y.c, y.d]
def r0 (d : Bool) (x y : W4) : List Int := rowDm d x.a (ysOf y) [0, 0, 0, 0]
def r1 (d e : Bool) (x y : W4) : List Int := rowDm e x.b (ysOf y) (r0 d x y).tail
def r2 (d e f : Bool) (x y : W4) : List Int := rowDm f x.c (ysOf y) (r1 d e x y).tail
def r3 (d e f g : Bool) (x y : W4) : List Int := rowDm g x.d (ysOf y) (r2 d e f x y).tail
def hd (l : List Int) : Int := l.headD 0
def w4T (l : List Int) : W4 := ⟨l.getD 0 0, l.getD 1 0, l.getD 2 0, l.getD 3 0⟩
def mulLog (d e f g : Bool) (x y : W4) : Log := je :: rowE g 3 x.d (ysOf y) (r2 d e f x y).tail (rowE f 2 x.c (ysOf y) (r1 d e x y).tail (rowE e 1 x.b (ysOf y) (r0 d x y).tail (rowE d 0 x.a (ysOf y) [0, 0, 0, 0] [])))
def scr (d : Bool) (s : List Dec) : List Dec :=
  match d with
  | true => cmp true :: cmp true :: s
  | false => cmp true :: cmp false :: cmp true :: cmp true :: cmp true :: cmp true :: cmp false :: s
def mulV (d e f g : Bool) (x y : W4) : Value := .tuple #[vW ⟨hd (r0 d x y), hd (r1 d e x y), hd (r2 d e f x y), hd (r3 d e f g x y)⟩, vW (w4T (r3 d e f g x y).tail)]
theorem mul_fits (x y : W4) (d e f g : Bool) : Fits (reckon (tabOf Try.prog extY conMA true) 3000 63 [vW x, vW y] (scr d (scr e (scr f (scr g [cmp false]))))) (mulV d e f g x y) (mulLog d e f g x y) := by
  cases d <;> cases e <;> cases f <;> cases g <;> exact ⟨by kernel_rfl, by kernel_rfl, by kernel_rfl, by kernel_rfl⟩
end Go.Proofs.Ytnolcojnodoecaa
