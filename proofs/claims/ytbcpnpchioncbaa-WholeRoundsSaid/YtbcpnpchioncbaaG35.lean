/-
  Products of the seat's program, II: wide.mulAdd and wide.Mul, as calls: what they answer of any numbers, in every world.
-/
import Derived.Test.YtbcpnpchioncbaaG33
import Derived.Test.YtbcpnpchioncbaaG34
namespace Go.Proofs.Ytbcpnpchioncbaa
open Go.KRun Go.Wd
set_option maxRecDepth 100000

def u1m : Value → Option Int
  | .int .u64 n => some n
  | _ => none
theorem u1m_spec {v : Value} {n : Int} (h : u1m v = some n) : v = u_ n := by
  unfold u1m at h
  split at h
  · cases h; rfl
  · cases h
def gMul : Ans := fun vals s =>
  match vals with
  | [x, y] =>
    match u1m x, u1m y with
    | some a, some b => some (.tuple #[u_ (a * b / 18446744073709551616), u_ (a * b % 18446744073709551616)], s, [(decide (word a ∧ word b), true)])
    | _, _ => none
  | _ => none
theorem gMul_ok : AnsOk 88 gMul := by
  intro vals s v s' lg h hl w
  unfold gMul at h
  split at h
  · split at h
    · rename_i a b ha hb
      cases h
      have h1 := hl _ (List.mem_singleton.2 rfl)
      simp only [decide_eq_true_eq] at h1
      rw [u1m_spec ha, u1m_spec hb]
      exact mul64_calls a b h1.1 h1.2 w
    · cases h
  · cases h
def conM : Con := alt 88 gMul conN
theorem conM_ok : ConOk conM := alt_ok Try.func88 rfl gMul_ok conN_ok
def pL (x y m : Int) : Int := Wd.ad (x * y % 18446744073709551616) m 0
def oA (x y c : Int) : Bool × Bool := (decide (0 ≤ x ∧ 0 ≤ y ∧ 0 ≤ c ∧ c ≤ 1), true)
theorem ma_fits (x y m c : Int) : Fits (reckon (tabOf Try.prog extY conM true) 3000 86 [u_ x, u_ y, u_ m, u_ c] [])
    (.tuple #[u_ (Wd.ad (pL x y m) c 0), u_ (IntKind.u64.wrap (IntKind.u64.wrap (x * y / 18446744073709551616 + ca (x * y % 18446744073709551616) m 0) + ca (pL x y m) c 0))])
    [oA (pL x y m) c 0, oA (x * y % 18446744073709551616) m 0, (decide (word x ∧ word y), true)] := ⟨by kernel_rfl, by kernel_rfl, by kernel_rfl, by kernel_rfl⟩
theorem ma_arith {x y : Int} (hx : word x) (hy : word y) : 0 ≤ x * y ∧ x * y ≤ 340282366920938463426481119284349108225 := by
  refine ⟨Int.mul_nonneg hx.1 hy.1, ?_⟩
  have := Int.mul_le_mul (show x ≤ 18446744073709551615 by omega) (show y ≤ 18446744073709551615 by omega) hy.1 (by omega)
  omega
theorem ma_calls (x y m c : Int) (hx : word x) (hy : word y) (hm : word m) (hc : word c) (w : World) : Calls Try.prog 86 #[u_ x, u_ y, u_ m, u_ c] w fun e w' =>
    e = .returned (.tuple #[u_ ((x * y + m + c) % 18446744073709551616), u_ ((x * y + m + c) / 18446744073709551616)]) ∧ Tidy w w' := by
  have bd := ma_arith hx hy
  have h := fits_calls (tabY_ok conM_ok) (ma_fits x y m c) (okCons (decide_eq_true (by unfold pL Wd.ad; omega)) (okCons (decide_eq_true (by omega)) (okL1 (decide_eq_true ⟨hx, hy⟩)))) (by rfl) (by rfl) w
  have e1 : Wd.ad (pL x y m) c 0 = (x * y + m + c) % 18446744073709551616 := by unfold pL Wd.ad; omega
  have e2 : IntKind.u64.wrap (IntKind.u64.wrap (x * y / 18446744073709551616 + ca (x * y % 18446744073709551616) m 0) + ca (pL x y m) c 0) = (x * y + m + c) / 18446744073709551616 := by
    unfold pL ca Wd.ad
    rw [wrap_u64, wrap_u64]
    omega
  rw [e1, e2] at h
  exact h
def gMA : Ans := fun vals s =>
  match vals with
  | [x, y, m, c] =>
    match u1m x, u1m y, u1m m, u1m c with
    | some x, some y, some m, some c => some (.tuple #[u_ ((x * y + m + c) % 18446744073709551616), u_ ((x * y + m + c) / 18446744073709551616)], s, [(decide (word x ∧ word y ∧ word m ∧ word c), true)])
    | _, _, _, _ => none
  | _ => none
theorem gMA_ok : AnsOk 86 gMA := by
  intro vals s v s' lg h hl w
  unfold gMA at h
  split at h
  · split at h
    · rename_i x y m c hx hy hm hc
      cases h
      have h1 := hl _ (List.mem_singleton.2 rfl)
      simp only [decide_eq_true_eq] at h1
      rw [u1m_spec hx, u1m_spec hy, u1m_spec hm, u1m_spec hc]
      exact ma_calls _ _ _ _ h1.1 h1.2.1 h1.2.2.1 h1.2.2.2 w
    · cases h
  · cases h
def conMA : Con := alt 86 gMA conN
theorem conMA_ok : ConOk conMA := alt_ok Try.func86 rfl gMA_ok conN_ok

/-! ### a row of the product, and the product -/
def lo (x y z c : Int) : Int := (x * y + z + c) % 18446744073709551616
def hi (x y z c : Int) : Int := (x * y + z + c) / 18446744073709551616
def rowF (x : Int) : List Int → List Int → Int → List Int
  | y :: ys, z :: zs, c => lo x y z c :: rowF x ys zs (hi x y z c)
  | _, _, c => [c]
def jl (j : Int) : Bool × Bool := (decide (j < 4), true)
def je : Bool × Bool := (decide ((4 : Int) < 4), false)
def wl (x y z c : Int) : Bool × Bool := (decide (word x ∧ word y ∧ word z ∧ word c), true)
def rowG (x : Int) : List Int → List Int → Int → Int → Log → Log
  | y :: ys, z :: zs, c, j, L => rowG x ys zs (hi x y z c) (j + 1) (wl x y z c :: jl j :: L)
  | _, _, _, _, L => je :: L
def rowDm (d : Bool) (x : Int) (ys zs : List Int) : List Int :=
  match d with
  | true => zs ++ [0]
  | false => rowF x ys zs 0
def rowE (d : Bool) (i x : Int) (ys zs : List Int) (L : Log) : Log :=
  match d with
  | true => (x == 0, true) :: jl i :: L
  | false => rowG x ys zs 0 0 ((x == 0, false) :: jl i :: L)
def ysOf (y : W4) : List Int := [y.a, y.b, y.c, y.d]
def r0 (d : Bool) (x y : W4) : List Int := rowDm d x.a (ysOf y) [0, 0, 0, 0]
def r1 (d e : Bool) (x y : W4) : List Int := rowDm e x.b (ysOf y) (r0 d x y).tail
def r2 (d e f : Bool) (x y : W4) : List Int := rowDm f x.c (ysOf y) (r1 d e x y).tail
def r3 (d e f g : Bool) (x y : W4) : List Int := rowDm g x.d (ysOf y) (r2 d e f x y).tail
def hd (l : List Int) : Int := l.headD 0
def w4T (l : List Int) : W4 := ⟨l.getD 0 0, l.getD 1 0, l.getD 2 0, l.getD 3 0⟩
def mulLog (d e f g : Bool) (x y : W4) : Log := je :: rowE g 3 x.d (ysOf y) (r2 d e f x y).tail (rowE f 2 x.c (ysOf y) (r1 d e x y).tail (rowE e 1 x.b (ysOf y) (r0 d x y).tail (rowE d 0 x.a (ysOf y) [0, 0, 0, 0] [])))
def scr (d : Bool) (s : List Dec) : List Dec :=
  match d with
  | true => cmp true :: cmp true :: s
  | false => cmp true :: cmp false :: cmp true :: cmp true :: cmp true :: cmp true :: cmp false :: s
def mulV (d e f g : Bool) (x y : W4) : Value := .tuple #[vW ⟨hd (r0 d x y), hd (r1 d e x y), hd (r2 d e f x y), hd (r3 d e f g x y)⟩, vW (w4T (r3 d e f g x y).tail)]
end Go.Proofs.Ytbcpnpchioncbaa

/-
  wide.guess, as a call; the pieces of wide.DivMod.
-/
namespace Go.Proofs.Ytbcpnpchioncbaa
open Go.KRun Go.Wd
set_option maxRecDepth 100000

def norm3 (h l b : Int) : Bool × Bool := (decide (word h ∧ word l ∧ 9223372036854775808 ≤ b ∧ b < 18446744073709551616 ∧ h < b), true)
def gDiv : Ans := fun vals s =>
  match vals with
  | [x, y, z] =>
    match u1m x, u1m y, u1m z with
    | some h, some l, some b => some (divV h l b, s, [norm3 h l b])
    | _, _, _ => none
  | _ => none
theorem gDiv_ok : AnsOk 85 gDiv := by
  intro vals s v s' lg h hl w
  unfold gDiv at h
  split at h
  · split at h
    · rename_i x y z hx hy hz
      cases h
      have h1 := hl _ (List.mem_singleton.2 rfl)
      simp only [norm3, decide_eq_true_eq] at h1
      rw [u1m_spec hx, u1m_spec hy, u1m_spec hz]
      exact div_calls _ _ _ h1.1 h1.2.1 ⟨h1.2.2.1, h1.2.2.2.1⟩ h1.2.2.2.2 w
    · cases h
  · cases h
def conDv : Con := alt 85 gDiv conN
theorem conDv_ok : ConOk conDv := alt_ok Try.func85 rfl gDiv_ok conN_ok
theorem guess_top (h l b : Int) : Fits (reckon (tabOf Try.prog extY conDv true) 300 81 [u_ h, u_ l, u_ b] [cmp true]) (u_ 18446744073709551615) [(decide (h ≥ b), true)] := ⟨by kernel_rfl, by kernel_rfl, by kernel_rfl, by kernel_rfl⟩
theorem guess_quo (h l b : Int) : Fits (reckon (tabOf Try.prog extY conDv true) 300 81 [u_ h, u_ l, u_ b] [cmp false]) (u_ ((h * 18446744073709551616 + l) / b)) [norm3 h l b, (decide (h ≥ b), false)] := ⟨by kernel_rfl, by kernel_rfl, by kernel_rfl, by kernel_rfl⟩
def gs (h l b : Int) : Int := if h ≥ b then 18446744073709551615 else (h * 18446744073709551616 + l) / b
def gok (h l b : Int) : Bool × Bool := (decide (word h ∧ word l ∧ 9223372036854775808 ≤ b ∧ b < 18446744073709551616), true)
theorem guess_calls (h l b : Int) (hh : word h) (hl : word l) (hb : 9223372036854775808 ≤ b ∧ b < 18446744073709551616) (w : World) : Calls Try.prog 81 #[u_ h, u_ l, u_ b] w fun e w' => e = .returned (u_ (gs h l b)) ∧ Tidy w w' := by
  unfold gs
  by_cases hc : h ≥ b
  · rw [if_pos hc]
    exact fits_calls (tabY_ok conDv_ok) (guess_top h l b) (okL1 (decide_eq_true hc)) (by rfl) (by rfl) w
  · rw [if_neg hc]
    exact fits_calls (tabY_ok conDv_ok) (guess_quo h l b) (okCons (decide_eq_true ⟨hh, hl, hb.1, hb.2, by omega⟩) (okL1 (decide_eq_false hc))) (by rfl) (by rfl) w
def gGuess : Ans := fun vals s =>
  match vals with
  | [x, y, z] =>
    match u1m x, u1m y, u1m z with
    | some h, some l, some b => some (u_ (gs h l b), s, [gok h l b])
    | _, _, _ => none
  | _ => none
theorem gGuess_ok : AnsOk 81 gGuess := by
  intro vals s v s' lg h hl w
  unfold gGuess at h
  split at h
  · split at h
    · rename_i x y z hx hy hz
      cases h
      have h1 := hl _ (List.mem_singleton.2 rfl)
      simp only [gok, decide_eq_true_eq] at h1
      rw [u1m_spec hx, u1m_spec hy, u1m_spec hz]
      exact guess_calls _ _ _ h1.1 h1.2.1 h1.2.2 w
    · cases h
  · cases h
def conQW : Con := alt 81 gGuess (alt 86 gMA (alt 76 (g1 lenV4) (alt 39 (g1n (plain1n shlV4)) (alt 78 (g1n (plain1n shrV4)) conN))))
theorem conQ_okW : ConOk conQW := alt_ok Try.func81 rfl gGuess_ok (alt_ok Try.func86 rfl gMA_ok (alt_ok Try.func76 rfl (g1_ok wlen_calls) (alt_ok Try.func39 rfl (plain1n_ok shl_calls) (alt_ok Try.func78 rfl (plain1n_ok shr_calls) conN_ok))))
def eN (F : Func) : Nat → Code
  | 0 => cBody F
  | n + 1 => cSnd (eN F n)
def qPre (F : Func) : List Code := (List.range 8).map fun i => cFst (eN F i)
def qRW (F : Func) : Code := cFst (cFst (eN F 8))
def qLoop (F : Func) : Code := cIn (cIn (cSnd (cFst (eN F 8))))
def qEnd (F : Func) : Code := eN F 9
theorem quo_body : Try.f67.body = some (seqs (qPre Try.f67) (.seq (.seq (qRW Try.f67) (.block 0 (.loop (qLoop Try.f67)))) (qEnd Try.f67))) := by kernel_rfl
def t_ (n : Nat) : Value := .pointer (some ⟨n, 0, none⟩)
def vQ (l : List Int) : List Value := l.map (Value.int .u64)
def qFr (v0 v1 : Value) (n up i : Int) (v14 v15 : Value) : List Value := [v0, v1, t_ 0, t_ 1, t_ 2, t_ 3, .nilIface, .int .i64 n, .int .i64 up, t_ 4, t_ 5, t_ 6, t_ 7, .int .i64 i, v14, v15]
def cW (x : W4) : List Value × TypeId := ([.int .u64 x.a, .int .u64 x.b, .int .u64 x.c, .int .u64 x.d], 42)
def qHp (a b lw : W4) (by_ rest quo : List Int) : Hp := ⟨8, [(vQ quo, 42), (vQ rest, 112), cW lw, (vQ by_, 42), cW ⟨0, 0, 0, 0⟩, cW ⟨0, 0, 0, 0⟩, cW b, cW a]⟩
end Go.Proofs.Ytbcpnpchioncbaa

/-
  The pieces of wide.DivMod, II: a digit of the quotient taken off, for each size of the divisor, each place, and each number of corrections.
-/
namespace Go.Proofs.Ytbcpnpchioncbaa
open Go.KRun Go.Wd
set_option maxRecDepth 100000

def offL (q : Int) : List Int → List Int → Int → Int → List Int
  | y :: ys, p :: ps, c, b => Go.Wd.sb p (lo y q 0 c) b :: offL q ys ps (hi y q 0 c) (bo p (lo y q 0 c) b)
  | [], p :: _, c, b => [Go.Wd.sb p c b]
  | _, [], _, _ => []
def offB (q : Int) : List Int → List Int → Int → Int → Int
  | y :: ys, p :: ps, c, b => offB q ys ps (hi y q 0 c) (bo p (lo y q 0 c) b)
  | [], p :: _, c, b => bo p c b
  | _, [], _, _ => 0
def offG (q : Int) : List Int → List Int → Int → Int → Log → Log
  | y :: ys, p :: ps, c, b, L => offG q ys ps (hi y q 0 c) (bo p (lo y q 0 c) b) (okS p (lo y q 0 c) b :: wl y q 0 c :: yes :: L)
  | [], p :: _, c, b, L => okS p c b :: no :: L
  | _, [], _, _, L => L
def putL_ : List Int → List Int → Int → List Int
  | y :: ys, p :: ps, c => ad p y c :: putL_ ys ps (ca p y c)
  | [], p :: _, c => [ad p 0 c]
  | _, [], _ => []
def putC : List Int → List Int → Int → Int
  | y :: ys, p :: ps, c => putC ys ps (ca p y c)
  | [], p :: _, c => ca p 0 c
  | _, [], _ => 0
def putG : List Int → List Int → Int → Log → Log
  | y :: ys, p :: ps, c, L => putG ys ps (ca p y c) (okA p y c :: yes :: L)
  | [], p :: _, c, L => okA p 0 c :: no :: L
  | _, [], _, L => L
def gsL (n : Nat) (ys ps : List Int) : Int := gs (ps.getD n 0) (ps.getD (n - 1) 0) (ys.getD (n - 1) 0)
def gokL (n : Nat) (ys ps : List Int) : Bool × Bool := gok (ps.getD n 0) (ps.getD (n - 1) 0) (ys.getD (n - 1) 0)
def ps0 (n : Nat) (ys ps : List Int) : List Int := offL (gsL n ys ps) ys ps 0 0
def ps1 (n : Nat) (ys ps : List Int) : List Int := putL_ ys (ps0 n ys ps) 0
def ps2 (n : Nat) (ys ps : List Int) : List Int := putL_ ys (ps1 n ys ps) 0
def tkO (n : Nat) : Nat → List Int → List Int → List Int
  | 0, ys, ps => ps0 n ys ps
  | 1, ys, ps => ps1 n ys ps
  | _, ys, ps => ps2 n ys ps
def tkD (n : Nat) : Nat → List Int → List Int → Int
  | 0, ys, ps => gsL n ys ps
  | 1, ys, ps => IntKind.u64.wrap (gsL n ys ps - 1)
  | _, ys, ps => IntKind.u64.wrap (IntKind.u64.wrap (gsL n ys ps - 1) - 1)
def tkG (n : Nat) : Nat → List Int → List Int → Log
  | 0, ys, ps => (offB (gsL n ys ps) ys ps 0 0 != 0, false) :: offG (gsL n ys ps) ys ps 0 0 [gokL n ys ps, yes]
  | 1, ys, ps => (putC ys (ps0 n ys ps) 0 != 0, true) :: putG ys (ps0 n ys ps) 0 ((offB (gsL n ys ps) ys ps 0 0 != 0, true) :: offG (gsL n ys ps) ys ps 0 0 [gokL n ys ps, yes])
  | _, ys, ps => (putC ys (ps1 n ys ps) 0 != 0, true) :: putG ys (ps1 n ys ps) 0 ((putC ys (ps0 n ys ps) 0 != 0, false) :: putG ys (ps0 n ys ps) 0 ((offB (gsL n ys ps) ys ps 0 0 != 0, true) :: offG (gsL n ys ps) ys ps 0 0 [gokL n ys ps, yes]))
def rng : Nat → List Dec → List Dec
  | 0, s => cmp false :: s
  | n + 1, s => cmp true :: rng n s
def tkS (n : Nat) : Nat → List Dec
  | 0 => cmp true :: rng n [cmp false]
  | 1 => cmp true :: rng n (cmp true :: rng n [cmp true])
  | _ => cmp true :: rng n (cmp true :: rng n (cmp false :: rng n [cmp true]))
def Rd (T : Tab) (F : Func) (n i c : Nat) (v0 v1 v14 v15 : Value) (up d0 d1 d2 d3 r0 r1 r2 r3 r4 q0 q1 q2 q3 : Int) (a b lw : W4) (g : Nat → Value) : Prop :=
  GoesT (evC T 500 false (qLoop F) (qFr v0 v1 n up i v14 v15 ++ tl 70 g, qHp a b lw [d0, d1, d2, d3] [r0, r1, r2, r3, r4] [q0, q1, q2, q3], tkS n c) ⟨[], [], []⟩) 16 70 none
    (qFr v0 v1 n up (IntKind.i64.wrap ((i : Int) - 1)) v14 v15)
    (qHp a b lw [d0, d1, d2, d3] ([r0, r1, r2, r3, r4].take i ++ (tkO n c ([d0, d1, d2, d3].take n) (([r0, r1, r2, r3, r4].drop i).take (n + 1)) ++ [r0, r1, r2, r3, r4].drop (i + n + 1))) ([q0, q1, q2, q3].set i (tkD n c ([d0, d1, d2, d3].take n) (([r0, r1, r2, r3, r4].drop i).take (n + 1)))))
    (tkG n c ([d0, d1, d2, d3].take n) (([r0, r1, r2, r3, r4].drop i).take (n + 1)))
end Go.Proofs.Ytbcpnpchioncbaa
