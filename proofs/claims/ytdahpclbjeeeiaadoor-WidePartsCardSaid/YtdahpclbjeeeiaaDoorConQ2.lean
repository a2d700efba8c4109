/-
  The pieces of wide.DivMod, II: a digit of the quotient taken off, for each size of the divisor, each place, and each number of corrections.
-/
import Derived.Test.YtdahpclbjeeeiaaDoorConQ1
namespace Go.Proofs.YtdahpclbjeeeiaaDoor
open Go.KRun Go.Wd
set_option maxRecDepth 100000

def offL (q : Int) : List Int → List Int → Int → Int → List Int
  | y :: ys, p :: ps, c, b => Go.Wd.sb p (lo y q 0 c) b :: offL q ys ps (hi y q 0 c) (bo p (lo y q 0 c) b)
  | [], p :: _, c, b => [Go.Wd.sb p c b]
  | _, [], _, _ => []
def offB (q : Int) : List Int → List Int → Int → Int → Int
  | y :: ys, p :: ps, c, b => offB q ys ps (hi y q 0 c) (bo p (lo y q 0 c) b)
  | [], p :: _, c, b => bo p c b
  | _, [], _, _ => 0
def offG (q : Int) : List Int → List Int → Int → Int → Log → Log
  | y :: ys, p :: ps, c, b, L => offG q ys ps (hi y q 0 c) (bo p (lo y q 0 c) b) (okS p (lo y q 0 c) b :: wl y q 0 c :: yes :: L)
  | [], p :: _, c, b, L => okS p c b :: no :: L
  | _, [], _, _, L => L
def putL_ : List Int → List Int → Int → List Int
  | y :: ys, p :: ps, c => ad p y c :: putL_ ys ps (ca p y c)
  | [], p :: _, c => [ad p 0 c]
  | _, [], _ => []
def putC : List Int → List Int → Int → Int
  | y :: ys, p :: ps, c => putC ys ps (ca p y c)
  | [], p :: _, c => ca p 0 c
  | _, [], _ => 0
def putG : List Int → List Int → Int → Log → Log
  | y :: ys, p :: ps, c, L => putG ys ps (ca p y c) (okA p y c :: yes :: L)
  | [], p :: _, c, L => okA p 0 c :: no :: L
  | _, [], _, L => L
def gsL (n : Nat) (ys ps : List Int) : Int := gs (ps.getD n 0) (ps.getD (n - 1) 0) (ys.getD (n - 1) 0)
def gokL (n : Nat) (ys ps : List Int) : Bool × Bool := gok (ps.getD n 0) (ps.getD (n - 1) 0) (ys.getD (n - 1) 0)
def ps0 (n : Nat) (ys ps : List Int) : List Int := offL (gsL n ys ps) ys ps 0 0
def ps1 (n : Nat) (ys ps : List Int) : List Int := putL_ ys (ps0 n ys ps) 0
def ps2 (n : Nat) (ys ps : List Int) : List Int := putL_ ys (ps1 n ys ps) 0
def tkO (n : Nat) : Nat → List Int → List Int → List Int
  | 0, ys, ps => ps0 n ys ps
  | 1, ys, ps => ps1 n ys ps
  | _, ys, ps => ps2 n ys ps
def tkD (n : Nat) : Nat → List Int → List Int → Int
  | 0, ys, ps => gsL n ys ps
  | 1, ys, ps => IntKind.u64.wrap (gsL n ys ps - 1)
  | _, ys, ps => IntKind.u64.wrap (IntKind.u64.wrap (gsL n ys ps - 1) - 1)
def tkG (n : Nat) : Nat → List Int → List Int → Log
  | 0, ys, ps => (offB (gsL n ys ps) ys ps 0 0 != 0, false) :: offG (gsL n ys ps) ys ps 0 0 [gokL n ys ps, yes]
  | 1, ys, ps => (putC ys (ps0 n ys ps) 0 != 0, true) :: putG ys (ps0 n ys ps) 0 ((offB (gsL n ys ps) ys ps 0 0 != 0, true) :: offG (gsL n ys ps) ys ps 0 0 [gokL n ys ps, yes])
  | _, ys, ps => (putC ys (ps1 n ys ps) 0 != 0, true) :: putG ys (ps1 n ys ps) 0 ((putC ys (ps0 n ys ps) 0 != 0, false) :: putG ys (ps0 n ys ps) 0 ((offB (gsL n ys ps) ys ps 0 0 != 0, true) :: offG (gsL n ys ps) ys ps 0 0 [gokL n ys ps, yes]))
def rng : Nat → List Dec → List Dec
  | 0, s => cmp false :: s
  | n + 1, s => cmp true :: rng n s
def tkS (n : Nat) : Nat → List Dec
  | 0 => cmp true :: rng n [cmp false]
  | 1 => cmp true :: rng n (cmp true :: rng n [cmp true])
  | _ => cmp true :: rng n (cmp true :: rng n (cmp false :: rng n [cmp true]))
def Rd (T : Tab) (F : Func) (n i c : Nat) (v0 v1 v14 v15 : Value) (up d0 d1 d2 d3 r0 r1 r2 r3 r4 q0 q1 q2 q3 : Int) (a b lw : W4) (g : Nat → Value) : Prop :=
  GoesT (evC T 500 false (qLoop F) (qFr v0 v1 n up i v14 v15 ++ tl 70 g, qHp a b lw [d0, d1, d2, d3] [r0, r1, r2, r3, r4] [q0, q1, q2, q3], tkS n c) ⟨[], [], []⟩) 16 70 none
    (qFr v0 v1 n up (IntKind.i64.wrap ((i : Int) - 1)) v14 v15)
    (qHp a b lw [d0, d1, d2, d3] ([r0, r1, r2, r3, r4].take i ++ (tkO n c ([d0, d1, d2, d3].take n) (([r0, r1, r2, r3, r4].drop i).take (n + 1)) ++ [r0, r1, r2, r3, r4].drop (i + n + 1))) ([q0, q1, q2, q3].set i (tkD n c ([d0, d1, d2, d3].take n) (([r0, r1, r2, r3, r4].drop i).take (n + 1)))))
    (tkG n c ([d0, d1, d2, d3].take n) (([r0, r1, r2, r3, r4].drop i).take (n + 1)))
end Go.Proofs.YtdahpclbjeeeiaaDoor
