/-
  wide.guess, as a call; the pieces of wide.DivMod.
-/
import Derived.Test.YtnolcojnodoecaaG23
namespace Go.Proofs.Ytnolcojnodoecaa
open Go.KRun Go.Wd
set_option maxRecDepth 100000

def norm3 (h l b : Int) : Bool × Bool := (decide (word h ∧ word l ∧ 9223372036854775808 ≤ b ∧ b < 18446744073709551616 ∧ h < b), true)
def gDiv : Ans := fun vals s =>
  match vals with
  | [x, y, z] =>
    match u1m x, u1m y, u1m z with
    | some h, some l, some b => some (divV h l b, s, [norm3 h l b])
    | _, _, _ => none
  | _ => none
theorem gDiv_ok : AnsOk 93 gDiv := by
  intro vals s v s' lg h hl w
  unfold gDiv at h
  split at h
  · split at h
    · rename_i x y z hx hy hz
      cases h
      have h1 := hl _ (List.mem_singleton.2 rfl)
      simp only [norm3, decide_eq_true_eq] at h1
      rw [u1m_spec hx, u1m_spec hy, u1m_spec hz]
      exact div_calls _ _ _ h1.1 h1.2.1 ⟨h1.2.2.1, h1.2.2.2.1⟩ h1.2.2.2.2 w
    · cases h
  · cases h
def conDv : Con := alt 93 gDiv conN
theorem conDv_ok : ConOk conDv := alt_ok Try.func93 rfl gDiv_ok conN_ok
theorem guess_top (h l b : Int) : Fits (reckon (tabOf Try.prog extY conDv true) 300 87 [u_ h, u_ l, u_ b] [cmp true]) (u_ 18446744073709551615) [(decide (h ≥ b), true)] := ⟨by kernel_rfl, by kernel_rfl, by kernel_rfl, by kernel_rfl⟩
theorem guess_quo (h l b : Int) : Fits (reckon (tabOf Try.prog extY conDv true) 300 87 [u_ h, u_ l, u_ b] [cmp false]) (u_ ((h * 18446744073709551616 + l) / b)) [norm3 h l b, (decide (h ≥ b), false)] := ⟨by kernel_rfl, by kernel_rfl, by kernel_rfl, by kernel_rfl⟩
def gs (h l b : Int) : Int := if h ≥ b then 18446744073709551615 else (h * 18446744073709551616 + l) / b
def gok (h l b : Int) : Bool × Bool := (decide (word h ∧ word l ∧ 9223372036854775808 ≤ b ∧ b < 18446744073709551616), true)
theorem guess_calls (h l b : Int) (hh : word h) (hl : word l) (hb : 9223372036854775808 ≤ b ∧ b < 18446744073709551616) (w : World) : Calls Try.prog 87 #[u_ h, u_ l, u_ b] w fun e w' => e = .returned (u_ (gs h l b)) ∧ Tidy w w' := by
  unfold gs
  by_cases hc : h ≥ b
  · rw [if_pos hc]
    exact fits_calls (tabY_ok conDv_ok) (guess_top h l b) (okL1 (decide_eq_true hc)) (by rfl) (by rfl) w
  · rw [if_neg hc]
    exact fits_calls (tabY_ok conDv_ok) (guess_quo h l b) (okCons (decide_eq_true ⟨hh, hl, hb.1, hb.2, by omega⟩) (okL1 (decide_eq_false hc))) (by rfl) (by rfl) w
def gGuess : Ans := fun vals s =>
  match vals with
  | [x, y, z] =>
    match u1m x, u1m y, u1m z with
    | some h, some l, some b => some (u_ (gs h l b), s, [gok h l b])
    | _, _, _ => none
  | _ => none
theorem gGuess_ok : AnsOk 87 gGuess := by
  intro vals s v s' lg h hl w
  unfold gGuess at h
  split at h
  · split at h
    · rename_i x y z hx hy hz
      cases h
      have h1 := hl _ (List.mem_singleton.2 rfl)
      simp only [gok, decide_eq_true_eq] at h1
      rw [u1m_spec hx, u1m_spec hy, u1m_spec hz]
      exact guess_calls _ _ _ h1.1 h1.2.1 h1.2.2 w
    · cases h
  · cases h
def conQW : Con := alt 87 gGuess (alt 84 gMA (alt 68 (g1 lenV4) (alt 51 (g1n (plain1n shlV4)) (alt 78 (g1n (plain1n shrV4)) conN))))
theorem conQ_okW : ConOk conQW := alt_ok Try.func87 rfl gGuess_ok (alt_ok Try.func84 rfl gMA_ok (alt_ok Try.func68 rfl (g1_ok wlen_calls) (alt_ok Try.func51 rfl (plain1n_ok shl_calls) (alt_ok Try.func78 rfl (plain1n_ok shr_calls) conN_ok))))
def eN (F : Func) : Nat → Code
  | 0 => cBody F
  | n + 1 => cSnd (eN F n)
def qPre (F : Func) : List Code := (List.range 8).map fun i => cFst (eN F i)
def qRW (F : Func) : Code := cFst (cFst (eN F 8))
def qLoop (F : Func) : Code := cIn (cIn (cSnd (cFst (eN F 8))))
def qEnd (F : Func) : Code := eN F 9
theorem quo_body : Try.f50.body = some (seqs (qPre Try.f50) (.seq (.seq (qRW Try.f50) (.block 0 (.loop (qLoop Try.f50)))) (qEnd Try.f50))) := by kernel_rfl
def t_ (n : Nat) : Value := .pointer (some ⟨n, 0, none⟩)
def vQ (l : List Int) : List Value := l.map (Value.int .u64)
def qFr (v0 v1 : Value) (n up i : Int) (v14 v15 : Value) : List Value := [v0, v1, t_ 0, t_ 1, t_ 2, t_ 3, .nilIface, .int .i64 n, .int .i64 up, t_ 4, t_ 5, t_ 6, t_ 7, .int .i64 i, v14, v15]
def cW (x : W4) : List Value × TypeId := ([.int .u64 x.a, .int .u64 x.b, .int .u64 x.c, .int .u64 x.d], 40)
def qHp (a b lw : W4) (by_ rest quo : List Int) : Hp := ⟨8, [(vQ quo, 40), (vQ rest, 103), cW lw, (vQ by_, 40), cW ⟨0, 0, 0, 0⟩, cW ⟨0, 0, 0, 0⟩, cW b, cW a]⟩
end Go.Proofs.Ytnolcojnodoecaa

/-
  The pieces of wide.DivMod, II: a digit of the quotient taken off, for each size of the divisor, each place, and each number of corrections.
-/
namespace Go.Proofs.Ytnolcojnodoecaa
open Go.KRun Go.Wd
set_option maxRecDepth 100000

def offL (q : Int) : List Int → List Int → Int → Int → List Int
  | y :: ys, p :: ps, c, b => Go.Wd.sb p (lo y q 0 c) b :: offL q ys ps (hi y q 0 c) (bo p (lo y q 0 c) b)
  | [], p :: _, c, b => [Go.Wd.sb p c b]
  | _, [], _, _ => []
def offB (q : Int) : List Int → List Int → Int → Int → Int
  | y :: ys, p :: ps, c, b => offB q ys ps (hi y q 0 c) (bo p (lo y q 0 c) b)
  | [], p :: _, c, b => bo p c b
  | _, [], _, _ => 0
def offG (q : Int) : List Int → List Int → Int → Int → Log → Log
  | y :: ys, p :: ps, c, b, L => offG q ys ps (hi y q 0 c) (bo p (lo y q 0 c) b) (okS p (lo y q 0 c) b :: wl y q 0 c :: yes :: L)
  | [], p :: _, c, b, L => okS p c b :: no :: L
  | _, [], _, _, L => L
def putL_ : List Int → List Int → Int → List Int
  | y :: ys, p :: ps, c => ad p y c :: putL_ ys ps (ca p y c)
  | [], p :: _, c => [ad p 0 c]
  | _, [], _ => []
def putC : List Int → List Int → Int → Int
  | y :: ys, p :: ps, c => putC ys ps (ca p y c)
  | [], p :: _, c => ca p 0 c
  | _, [], _ => 0
def putG : List Int → List Int → Int → Log → Log
  | y :: ys, p :: ps, c, L => putG ys ps (ca p y c) (okA p y c :: yes :: L)
  | [], p :: _, c, L => okA p 0 c :: no :: L
  | _, [], _, L => L
def gsL (n : Nat) (ys ps : List Int) : Int := gs (ps.getD n 0) (ps.getD (n - 1) 0) (ys.getD (n - 1) 0)
def gokL (n : Nat) (ys ps : List Int) : Bool × Bool := gok (ps.getD n 0) (ps.getD (n - 1) 0) (ys.getD (n - 1) 0)
def ps0 (n : Nat) (ys ps : List Int) : List Int := offL (gsL n ys ps) ys ps 0 0
def ps1 (n : Nat) (ys ps : List Int) : List Int := putL_ ys (ps0 n ys ps) 0
def ps2 (n : Nat) (ys ps : List Int) : List Int := putL_ ys (ps1 n ys ps) 0
def tkO (n : Nat) : Nat → List Int → List Int → List Int
  | 0, ys, ps => ps0 n ys ps
  | 1, ys, ps => ps1 n ys ps
  | _, ys, ps => ps2 n ys ps
def tkD (n : Nat) : Nat → List Int → List Int → Int
  | 0, ys, ps => gsL n ys ps
  | 1, ys, ps => IntKind.u64.wrap (gsL n ys ps - 1)
  | _, ys, ps => IntKind.u64.wrap (IntKind.u64.wrap (gsL n ys ps - 1) - 1)
def tkG (n : Nat) : Nat → List Int → List Int → Log
  | 0, ys, ps => (offB (gsL n ys ps) ys ps 0 0 != 0, false) :: offG (gsL n ys ps) ys ps 0 0 [gokL n ys ps, yes]
  | 1, ys, ps => (putC ys (ps0 n ys ps) 0 != 0, true) :: putG ys (ps0 n ys ps) 0 ((offB (gsL n ys ps) ys ps 0 0 != 0, true) :: offG (gsL n ys ps) ys ps 0 0 [gokL n ys ps, yes])
  | _, ys, ps => (putC ys (ps1 n ys ps) 0 != 0, true) :: putG ys (ps1 n ys ps) 0 ((putC ys (ps0 n ys ps) 0 != 0, false) :: putG ys (ps0 n ys ps) 0 ((offB (gsL n ys ps) ys ps 0 0 != 0, true) :: offG (gsL n ys ps) ys ps 0 0 [gokL n ys ps, yes]))
def rng : Nat → List Dec → List Dec
  | 0, s => cmp false :: s
  | n + 1, s => cmp true :: rng n s
def tkS (n : Nat) : Nat → List Dec
  | 0 => cmp true :: rng n [cmp false]
  | 1 => cmp true :: rng n (cmp true :: rng n [cmp true])
  | _ => cmp true :: rng n (cmp true :: rng n (cmp false :: rng n [cmp true]))
def Rd (T : Tab) (F : Func) (n i c : Nat) (v0 v1 v14 v15 : Value) (up d0 d1 d2 d3 r0 r1 r2 r3 r4 q0 q1 q2 q3 : Int) (a b lw : W4) (g : Nat → Value) : Prop :=
  GoesT (evC T 500 false (qLoop F) (qFr v0 v1 n up i v14 v15 ++ tl 70 g, qHp a b lw [d0, d1, d2, d3] [r0, r1, r2, r3, r4] [q0, q1, q2, q3], tkS n c) ⟨[], [], []⟩) 16 70 none
    (qFr v0 v1 n up (IntKind.i64.wrap ((i : Int) - 1)) v14 v15)
    (qHp a b lw [d0, d1, d2, d3] ([r0, r1, r2, r3, r4].take i ++ (tkO n c ([d0, d1, d2, d3].take n) (([r0, r1, r2, r3, r4].drop i).take (n + 1)) ++ [r0, r1, r2, r3, r4].drop (i + n + 1))) ([q0, q1, q2, q3].set i (tkD n c ([d0, d1, d2, d3].take n) (([r0, r1, r2, r3, r4].drop i).take (n + 1)))))
    (tkG n c ([d0, d1, d2, d3].take n) (([r0, r1, r2, r3, r4].drop i).take (n + 1)))
end Go.Proofs.Ytnolcojnodoecaa
