/-
  The pieces of wide.DivMod, II: a digit of the quotient taken off, for each size of the divisor, each place, and each number of corrections.
-/
import Derived.Test.YtbcpnpchioncbaaG24
namespace Go.Proofs.Ytbcpnpchioncbaa
open Go.KRun Go.Wd
set_option maxRecDepth 100000

def offL (q : Int) : List Int → List Int → Int → Int → List Int
  | y :: ys, p :: ps, c, b => Go.Wd.sb p (lo y q 0 c) b :: offL q ys ps (hi y q 0 c) (bo p (lo y q 0 c) b)
  | [], p :: _, c, b => [Go.Wd.sb p c b]
  | _, [], _, _ => []
def offB (q : Int) : List Int → List Int → Int → Int → Int
  | y :: ys, p :: ps, c, b => offB q ys ps (hi y q 0 c) (bo p (lo y q 0 c) b)
  | [], p :: _, c, b => bo p c b
  | _, [], _, _ => 0
def offG (q : Int) : List Int → List Int → Int → Int → Log → Log
  | y :: ys, p :: ps, c, b, L => offG q ys ps (hi y q 0 c) (bo p (lo y q 0 c) b) (okS p (lo y q 0 c) b :: wl y q 0 c :: yes :: L)
  | [], p :: _, c, b, L => okS p c b :: no :: L
  | _, [], _, _, L => L
def putL_ : List Int → List Int → Int → List Int
  | y :: ys, p :: ps, c => ad p y c :: putL_ ys ps (ca p y c)
  | [], p :: _, c => [ad p 0 c]
  | _, [], _ => []
def putC : List Int → List Int → Int → Int
  | y :: ys, p :: ps, c => putC ys ps (ca p y c)
  | [], p :: _, c => ca p 0 c
  | _, [], _ => 0
def putG : List Int → List Int → Int → Log → Log
  | y :: ys, p :: ps, c, L => putG ys ps (ca p y c) (okA p y c :: yes :: L)
  | [], p :: _, c, L => okA p 0 c :: no :: L
  | _, [], _, L => L
def gsL (n : Nat) (ys ps : List Int) : Int := gs (ps.getD n 0) (ps.getD (n - 1) 0) (ys.getD (n - 1) 0)
def gokL (n : Nat) (ys ps : List Int) : Bool × Bool := gok (ps.getD n 0) (ps.getD (n - 1) 0) (ys.getD (n - 1) 0)
def ps0 (n : Nat) (ys ps : List Int) : List Int := offL (gsL n ys ps) ys ps 0 0
def ps1 (n : Nat) (ys ps : List Int) : List Int := putL_ ys (ps0 n ys ps) 0
def ps2 (n : Nat) (ys ps : List Int) : List Int := putL_ ys (ps1 n ys ps) 0
def tkO (n : Nat) : Nat → List Int → List Int → List Int
  | 0, ys, ps => ps0 n ys ps
  | 1, ys, ps => ps1 n ys ps
  | _, ys, ps => ps2 n ys ps
def tkD (n : Nat) : Nat → List Int → List Int → Int
  | 0, ys, ps => gsL n ys ps
  | 1, ys, ps => IntKind.u64.wrap (gsL n ys ps - 1)
  | _, ys, ps => IntKind.u64.wrap (IntKind.u64.wrap (gsL n ys ps - 1) - 1)
def tkG (n : Nat) : Nat → List Int → List Int → Log
  | 0, ys, ps => (offB (gsL n ys ps) ys ps 0 0 != 0, false) :: offG (gsL n ys ps) ys ps 0 0 [gokL n ys ps, yes]
  | 1, ys, ps => (putC ys (ps0 n ys ps) 0 != 0, true) :: putG ys (ps0 n ys ps) 0 ((offB (gsL n ys ps) ys ps 0 0 != 0, true) :: offG (gsL n ys ps) ys ps 0 0 [gokL n ys ps, yes])
  | _, ys, ps => (putC ys (ps1 n ys ps) 0 != 0, true) :: putG ys (ps1 n ys ps) 0 ((putC ys (ps0 n ys ps) 0 != 0, false) :: putG ys (ps0 n ys ps) 0 ((offB (gsL n ys ps) ys ps 0 0 != 0, true) :: offG (gsL n ys ps) ys ps 0 0 [gokL n ys ps, yes]))
def rng : Nat → List Dec → List Dec
  | 0, s => cmp false :: s
  | n + 1, s => cmp true :: rng n s
def tkS (n : Nat) : Nat → List Dec
  | 0 => cmp true :: rng n [cmp false]
  | 1 => cmp true :: rng n (cmp true :: rng n [cmp true])
  | _ => cmp true :: rng n (cmp true :: rng n (cmp false :: rng n [cmp true]))
def Rd (T : Tab) (F : Func) (n i c : Nat) (v0 v1 v14 v15 : Value) (up d0 d1 d2 d3 r0 r1 r2 r3 r4 q0 q1 q2 q3 : Int) (a b lw : W4) (g : Nat → Value) : Prop :=
  GoesT (evC T 500 false (qLoop F) (qFr v0 v1 n up i v14 v15 ++ tl 70 g, qHp a b lw [d0, d1, d2, d3] [r0, r1, r2, r3, r4] [q0, q1, q2, q3], tkS n c) ⟨[], [], []⟩) 16 70 none
    (qFr v0 v1 n up (IntKind.i64.wrap ((i : Int) - 1)) v14 v15)
    (qHp a b lw [d0, d1, d2, d3] ([r0, r1, r2, r3, r4].take i ++ (tkO n c ([d0, d1, d2, d3].take n) (([r0, r1, r2, r3, r4].drop i).take (n + 1)) ++ [r0, r1, r2, r3, r4].drop (i + n + 1))) ([q0, q1, q2, q3].set i (tkD n c ([d0, d1, d2, d3].take n) (([r0, r1, r2, r3, r4].drop i).take (n + 1)))))
    (tkG n c ([d0, d1, d2, d3].take n) (([r0, r1, r2, r3, r4].drop i).take (n + 1)))
end Go.Proofs.Ytbcpnpchioncbaa

/-
  Products of the seat's program, III: what wide.Mul answers is the product.
-/
namespace Go.Proofs.Ytbcpnpchioncbaa
open Go.KRun Go.Wd
set_option maxRecDepth 100000

def vB : List Int → Int
  | [] => 0
  | d :: ds => d + 18446744073709551616 * vB ds
def words (l : List Int) : Prop := ∀ d ∈ l, word d
theorem lohi {x y z c : Int} (hx : word x) (hy : word y) (hz : word z) (hc : word c) : word (lo x y z c) ∧ word (hi x y z c) ∧ lo x y z c + 18446744073709551616 * hi x y z c = x * y + z + c := by
  have bd := ma_arith hx hy
  unfold lo hi word at *
  generalize x * y = p at *
  omega
theorem row_spec {x : Int} (hx : word x) : ∀ (ys zs : List Int) (c j : Int) (L : Log), words ys → words zs → word c → ys.length = zs.length → 0 ≤ j → j + ys.length ≤ 4 → okLog L →
    words (rowF x ys zs c) ∧ (rowF x ys zs c).length = ys.length + 1 ∧ vB (rowF x ys zs c) = vB zs + x * vB ys + c ∧ okLog (rowG x ys zs c j L)
  | [], [], c, j, L, _, _, hc, _, _, _, hL => by
    refine ⟨fun d hd => ?_, rfl, by simp [rowF, vB], okCons (by rfl) hL⟩
    simp only [rowF, List.mem_singleton] at hd
    rw [hd]; exact hc
  | y :: ys, z :: zs, c, j, L, hy, hz, hc, hl, h0, hj, hL => by
    have y1 := hy y List.mem_cons_self
    have z1 := hz z List.mem_cons_self
    obtain ⟨e1, e2, e3⟩ := lohi hx y1 z1 hc
    simp only [List.length_cons] at hl hj
    obtain ⟨g1, g2, g3, g4⟩ := row_spec hx ys zs (hi x y z c) (j + 1) (wl x y z c :: jl j :: L) (fun d hd => hy d (List.mem_cons_of_mem _ hd)) (fun d hd => hz d (List.mem_cons_of_mem _ hd)) e2 (by omega) (by omega) (by omega)
      (okCons (decide_eq_true ⟨hx, y1, z1, hc⟩) (okCons (decide_eq_true (by omega : j < 4)) hL))
    refine ⟨fun d hd => ?_, by simp only [rowF, List.length_cons, g2], ?_, g4⟩
    · simp only [rowF] at hd
      rcases List.mem_cons.1 hd with rfl | hd
      · exact e1
      · exact g1 d hd
    · simp only [rowF, vB]
      rw [g3]
      have : x * (y + 18446744073709551616 * vB ys) = x * y + 18446744073709551616 * (x * vB ys) := by rw [Int.mul_add, Int.mul_left_comm]
      rw [this]
      generalize x * vB ys = q at *
      generalize x * y = p at *
      omega
  | [], _ :: _, _, _, _, _, _, _, hl, _, _, _ => by simp at hl
  | _ :: _, [], _, _, _, _, _, _, hl, _, _, _ => by simp at hl
theorem vB_snoc0 : ∀ l : List Int, vB (l ++ [0]) = vB l
  | [] => rfl
  | d :: ds => by simp only [List.cons_append, vB, vB_snoc0 ds]
theorem rowDm_spec {x i : Int} (hx : word x) (hi : i < 4) {ys zs : List Int} (hy : words ys) (hz : words zs) (ly : ys.length = 4) (lz : zs.length = 4) {L : Log} (hL : okLog L) :
    ∃ h t, rowDm (x == 0) x ys zs = h :: t ∧ word h ∧ words t ∧ t.length = 4 ∧ h + 18446744073709551616 * vB t = vB zs + x * vB ys ∧ okLog (rowE (x == 0) i x ys zs L) := by
  have key : words (rowDm (x == 0) x ys zs) ∧ (rowDm (x == 0) x ys zs).length = 5 ∧ vB (rowDm (x == 0) x ys zs) = vB zs + x * vB ys ∧ okLog (rowE (x == 0) i x ys zs L) := by
    have ji : (jl i).1 = (jl i).2 := decide_eq_true hi
    by_cases h : x = 0
    · have hb : (x == 0) = true := beq_iff_eq.2 h
      rw [hb]
      refine ⟨fun d hd => ?_, by simp [rowDm, lz], ?_, okCons hb (okCons ji hL)⟩
      · simp only [rowDm] at hd
        rcases List.mem_append.1 hd with hd | hd
        · exact hz d hd
        · rw [List.mem_singleton.1 hd]; unfold word; omega
      · simp only [rowDm, vB_snoc0]
        rw [h]; omega
    · have hb : (x == 0) = false := beq_eq_false_iff_ne.2 h
      rw [hb]
      obtain ⟨g1, g2, g3, g4⟩ := row_spec hx ys zs 0 0 ((x == 0, false) :: jl i :: L) hy hz (by unfold word; omega) (by omega) (by omega) (by omega) (okCons hb (okCons ji hL))
      exact ⟨g1, by simp only [rowDm]; omega, by simp only [rowDm]; omega, g4⟩
  obtain ⟨k1, k2, k3, k4⟩ := key
  match hr : rowDm (x == 0) x ys zs, k1, k2, k3 with
  | h :: t, k1, k2, k3 =>
    exact ⟨h, t, rfl, k1 h List.mem_cons_self, fun d hd => k1 d (List.mem_cons_of_mem _ hd), by simpa using k2, k3, k4⟩
def mulV4 (x y : W4) : Value := .tuple #[vW (W4.of (x.val * y.val)), vW (W4.of (x.val * y.val / 115792089237316195423570985008687907853269984665640564039457584007913129639936))]
theorem ysOf_val (y : W4) : vB (ysOf y) = y.val := by unfold ysOf W4.val; simp only [vB]; omega
end Go.Proofs.Ytbcpnpchioncbaa
