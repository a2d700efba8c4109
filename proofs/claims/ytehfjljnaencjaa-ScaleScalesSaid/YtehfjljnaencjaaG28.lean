/-
  The document's Round (tillerref04): its pieces.
-/
import Derived.Test.YtehfjljnaencjaaG27
import Derived.Test.YtehfjljnaencjaaG09
import Derived.Test.YtehfjljnaencjaaG12
namespace Go.Proofs.Ytehfjljnaencjaa
open Go.KRun Go.Nt Go.Wd Go.Rn
set_option maxRecDepth 100000
set_option linter.unusedVariables false

/-! ### over, signed -/
def gOv : Ans := fun vals s =>
  match vals with
  | [.bool n, .int .i64 m] => some (.int .u64 (bey m n), s, [])
  | _ => none
theorem ov2 (n : Bool) (m : Int) : Fits (reckon (tabOf Try.prog extY conN true) 300 57 [.bool n, .int .i64 m] [cmp true]) (.int .u64 9218868437227405311) [(m == 2, true)] := ⟨by kernel_rfl, by kernel_rfl, by kernel_rfl, by kernel_rfl⟩
def ovV (b : Bool) : Value := match b with | true => .int .u64 9218868437227405311 | false => .int .u64 9218868437227405312
theorem ov3 (n : Bool) (m : Int) : Fits (reckon (tabOf Try.prog extY conN true) 300 57 [.bool n, .int .i64 m] [cmp false, cmp true, cmp false]) (ovV n) (match n with | true => [(m == 3, true), (m == 2, false)] | false => [(m == 4, false), (m == 3, true), (m == 2, false)]) := by
  cases n <;> exact ⟨by kernel_rfl, by kernel_rfl, by kernel_rfl, by kernel_rfl⟩
theorem ov4 (n : Bool) (m : Int) : Fits (reckon (tabOf Try.prog extY conN true) 300 57 [.bool n, .int .i64 m] [cmp false, cmp false, cmp true]) (ovV (!n)) [(m == 4, true), (m == 3, false), (m == 2, false)] := by
  cases n <;> exact ⟨by kernel_rfl, by kernel_rfl, by kernel_rfl, by kernel_rfl⟩
theorem ov0 (n : Bool) (m : Int) : Fits (reckon (tabOf Try.prog extY conN true) 300 57 [.bool n, .int .i64 m] [cmp false, cmp false, cmp false]) (.int .u64 9218868437227405312) [(m == 4, false), (m == 3, false), (m == 2, false)] := by
  cases n <;> exact ⟨by kernel_rfl, by kernel_rfl, by kernel_rfl, by kernel_rfl⟩
theorem gOv_ok : AnsOk 57 gOv := by
  intro vals s v s' lg h hl w
  unfold gOv at h
  split at h
  · rename_i n m
    cases h
    have hv : ([.bool n, .int .i64 m].all (lt 0)) = true := rfl
    by_cases h2 : m = 2
    · have e : bey m n = 9218868437227405311 := by rw [h2]; cases n <;> rfl
      rw [e]
      exact fits_calls (tabY_ok conN_ok) (ov2 n m) (okL1 (by rw [h2]; rfl)) hv (by rfl) w
    · have b2 : (m == 2) = false := by simp [h2]
      by_cases h3 : m = 3
      · have e : Value.int .u64 (bey m n) = ovV n := by rw [h3]; cases n <;> rfl
        rw [e]
        cases n
        · exact fits_calls (tabY_ok conN_ok) (ov3 false m) (okCons (by rw [h3]; rfl) (okCons (by rw [h3]; rfl) (okL1 b2))) hv (by rfl) w
        · exact fits_calls (tabY_ok conN_ok) (ov3 true m) (okCons (by rw [h3]; rfl) (okL1 b2)) hv (by rfl) w
      · have b3 : (m == 3) = false := by simp [h3]
        by_cases h4 : m = 4
        · have e : Value.int .u64 (bey m n) = ovV (!n) := by rw [h4]; cases n <;> rfl
          rw [e]
          exact fits_calls (tabY_ok conN_ok) (ov4 n m) (okCons (by rw [h4]; rfl) (okCons b3 (okL1 b2))) hv (by cases n <;> rfl) w
        · have b4 : (m == 4) = false := by simp [h4]
          have e : bey m n = 9218868437227405312 := by
            unfold bey upR
            rw [if_neg h2, if_neg h3, if_neg h4]
            split <;> first | omega | (simp; done)
          rw [e]
          exact fits_calls (tabY_ok conN_ok) (ov0 n m) (okCons b4 (okCons b3 (okL1 b2))) hv (by rfl) w
  · cases h
def sgV (n : Bool) (p : Int) : Int := match n with | true => IntKind.u64.wrap (p + 9223372036854775808) | false => p
theorem sg_fits (n : Bool) (p : Int) : Fits (reckon (tabOf Try.prog extY conN true) 300 55 [.int .u64 p, .bool n] []) (.int .u64 (sgV n p)) [] := by
  cases n <;> exact ⟨by kernel_rfl, by kernel_rfl, by kernel_rfl, by kernel_rfl⟩
def gSg : Ans := fun vals s =>
  match vals with
  | [.int .u64 p, .bool n] => some (.int .u64 (sS n p), s, [(decide (0 ≤ p ∧ p ≤ 9218868437227405312), true)])
  | _ => none
theorem gSg_ok : AnsOk 55 gSg := by
  intro vals s v s' lg h hl w
  unfold gSg at h
  split at h
  · rename_i p n
    cases h
    have hp := of_decide_eq_true (hl _ (List.mem_singleton.2 rfl))
    have e : sS n p = sgV n p := by
      cases n
      · rfl
      · simp only [sS, sgV, if_true]
        rw [Go.Pt.wrapU' ⟨by omega, by omega⟩]
        omega
    rw [e]
    exact fits_calls (tabY_ok conN_ok) (sg_fits n p) okNl (by rfl) (by rfl) w
  · cases h
def conQ : Con := alt 57 gOv (alt 55 gSg conN)
theorem conQ_ok : ConOk conQ := alt_ok Try.func57 rfl gOv_ok (alt_ok Try.func55 rfl gSg_ok conN_ok)
def hcQ : Hc := altH 58 gTo hcW
theorem hcQ_ok : HcOk hcQ := altH_ok Try.func58 rfl gTo_ok hcW_ok

/-! ### pieces -/
theorem ro_body : Try.f28.body = some (cBody Try.f28) := by kernel_rfl
def rS1 (F : Func) : List Code := [cFst (tC F 0), cFst (tC F 1)]
def rS2 (F : Func) : List Code := [cFst (tC F 2), cFst (tC F 3), cFst (tC F 4), cFst (tC F 5)]
def rS3 (F : Func) : List Code := [cFst (tC F 6), cFst (tC F 7), cFst (tC F 8), cFst (tC F 9)]
theorem ro_body4 : Try.f28.body = some (seqs (rS1 Try.f28) (seqs (rS2 Try.f28) (seqs (rS3 Try.f28) (tC Try.f28 10)))) := by kernel_rfl
theorem ro_body2 : Try.f28.body = some (seqs (rS1 Try.f28) (tC Try.f28 2)) := by kernel_rfl
theorem ro_m1 (neg : Bool) (E M : Int) (o n c : Nat) (l : List Value) : GoesT (evL (tabH Try.prog extY conQ hcQ) 200 (rS1 Try.f28) ([vRN neg E (sl 0 o n c), .int .i64 M] ++ List.replicate 107 undef, ⟨1, [(l, tR)]⟩, [cmp true]) ⟨[], [], []⟩) 6 103 none [vRN neg E (sl 0 o n c), .int .i64 0, .pointer (some ⟨1, 0, none⟩), undef, .int .u64 0, .int .i64 0] (hX neg E o n c l) [(decide (M < 0), true)] := ⟨by kernel_rfl, by kernel_rfl, by kernel_rfl⟩
theorem ro_m2 (neg : Bool) (E M : Int) (o n c : Nat) (l : List Value) : GoesT (evL (tabH Try.prog extY conQ hcQ) 200 (rS1 Try.f28) ([vRN neg E (sl 0 o n c), .int .i64 M] ++ List.replicate 107 undef, ⟨1, [(l, tR)]⟩, [cmp false, cmp true]) ⟨[], [], []⟩) 6 103 none [vRN neg E (sl 0 o n c), .int .i64 0, .pointer (some ⟨1, 0, none⟩), undef, .int .u64 0, .int .i64 0] (hX neg E o n c l) [(decide (M > 4), true), (decide (M < 0), false)] := ⟨by kernel_rfl, by kernel_rfl, by kernel_rfl⟩
theorem ro_m3 (neg : Bool) (E M : Int) (o n c : Nat) (l : List Value) : GoesT (evL (tabH Try.prog extY conQ hcQ) 200 (rS1 Try.f28) ([vRN neg E (sl 0 o n c), .int .i64 M] ++ List.replicate 107 undef, ⟨1, [(l, tR)]⟩, [cmp false, cmp false]) ⟨[], [], []⟩) 6 103 none [vRN neg E (sl 0 o n c), .int .i64 M, .pointer (some ⟨1, 0, none⟩), undef, .int .u64 0, .int .i64 0] (hX neg E o n c l) [(decide (M > 4), false), (decide (M < 0), false)] := ⟨by kernel_rfl, by kernel_rfl, by kernel_rfl⟩
def sumI (x y : Int) : Int := IntKind.i64.wrap (x + y)
def okP (p : Int) : Bool × Bool := (decide (0 ≤ p ∧ p ≤ 9218868437227405312), true)
theorem ro_zero (neg : Bool) (E m : Int) (o n c : Nat) (l : List Value) (g : Nat → Value) : GoesT (evC (tabH Try.prog extY conQ hcQ) 200 false (tC Try.f28 2) ([vRN neg E (sl 0 o n c), .int .i64 m, .pointer (some ⟨1, 0, none⟩), undef, .int .u64 0, .int .i64 0] ++ tl 103 g, (hX neg E o n c l), [cmp true]) ⟨[], [], []⟩) 6 103 (some none) [vRN neg E (sl 0 o n c), .int .i64 m, .pointer (some ⟨1, 0, none⟩), undef, .int .u64 (sS neg 0), .int .i64 0] (hX neg E o n c l) [okP 0, ((n : Int) == 0, true)] := ⟨by kernel_rfl, by kernel_rfl, by kernel_rfl⟩
theorem ro_big (neg : Bool) (E m : Int) (o n c : Nat) (l : List Value) (g : Nat → Value) : GoesT (evC (tabH Try.prog extY conQ hcQ) 200 false (tC Try.f28 2) ([vRN neg E (sl 0 o n c), .int .i64 m, .pointer (some ⟨1, 0, none⟩), undef, .int .u64 0, .int .i64 0] ++ tl 103 g, (hX neg E o n c l), [cmp false, cmp true]) ⟨[], [], []⟩) 6 103 (some none) [vRN neg E (sl 0 o n c), .int .i64 m, .pointer (some ⟨1, 0, none⟩), undef, .int .u64 (sS neg (bey m neg)), .int .i64 20] (hX neg E o n c l) [okP (bey m neg), (decide ((sumI E ((bl (vO (hX neg E o n c l) (aX o) n) : Nat) : Int)) > 1100), true), (okLen (hX neg E o n c l) (aX o) n c, true), ((n : Int) == 0, false)] := ⟨by kernel_rfl, by kernel_rfl, by kernel_rfl⟩
theorem ro_mid (neg : Bool) (E m : Int) (o n c : Nat) (l : List Value) (g : Nat → Value) : GoesT (evL (tabH Try.prog extY conQ hcQ) 200 (rS2 Try.f28) ([vRN neg E (sl 0 o n c), .int .i64 m, .pointer (some ⟨1, 0, none⟩), undef, .int .u64 0, .int .i64 0] ++ tl 103 g, (hX neg E o n c l), [cmp false, cmp false, cmp false]) ⟨[], [], []⟩) 7 102 none [vRN neg E (sl 0 o n c), .int .i64 m, .pointer (some ⟨1, 0, none⟩), undef, .int .u64 0, .int .i64 0, .int .i64 (sumI E ((bl (vO (hX neg E o n c l) (aX o) n) : Nat) : Int))] (hX neg E o n c l) [(decide ((sumI E ((bl (vO (hX neg E o n c l) (aX o) n) : Nat) : Int)) < -1200), false), (decide ((sumI E ((bl (vO (hX neg E o n c l) (aX o) n) : Nat) : Int)) > 1100), false), (okLen (hX neg E o n c l) (aX o) n c, true), ((n : Int) == 0, false)] := ⟨by kernel_rfl, by kernel_rfl, by kernel_rfl⟩
def hLo (neg : Bool) (l : List Value) : Hp := ⟨3, [(wU (d16 1), tU), bOf neg (-1300) (sOf 2 1), (l, tR)]⟩
theorem ro_low (neg : Bool) (E m : Int) (o n c : Nat) (l : List Value) (g : Nat → Value) : GoesT (evL (tabH Try.prog extY conQ hcQ) 200 (rS2 Try.f28) ([vRN neg E (sl 0 o n c), .int .i64 m, .pointer (some ⟨1, 0, none⟩), undef, .int .u64 0, .int .i64 0] ++ tl 103 g, (hX neg E o n c l), [cmp false, cmp false, cmp true]) ⟨[], [], []⟩) 7 102 none [vRN neg E (sl 0 o n c), .int .i64 m, .pointer (some ⟨1, 0, none⟩), undef, .int .u64 0, .int .i64 0, .int .i64 (-1299)] (hLo neg l) [okOne1, okOne1, (decide ((sumI E ((bl (vO (hX neg E o n c l) (aX o) n) : Nat) : Int)) < -1200), true), (decide ((sumI E ((bl (vO (hX neg E o n c l) (aX o) n) : Nat) : Int)) > 1100), false), (okLen (hX neg E o n c l) (aX o) n c, true), ((n : Int) == 0, false)] := ⟨by kernel_rfl, by kernel_rfl, by kernel_rfl⟩
end Go.Proofs.Ytehfjljnaencjaa

/-
  The document's Round (tillerref04): its third and its last piece.
-/
namespace Go.Proofs.Ytehfjljnaencjaa
open Go.KRun Go.Nt Go.Wd Go.Rn
set_option maxRecDepth 100000
set_option linter.unusedVariables false

def nOf (t : Int) : Int := if -1074 > dif t 53 then -1074 else dif t 53
def sRw (k : Nat) (d : Bool) (V : Nat) : Value := match d with | true => sOf k V | false => nilS
def pRw (h : Hp) (d : Bool) (V : Nat) : Hp := match d with | true => h.push (wU (d16 V)) tU | false => h
def hB (L : List (List Value × TypeId)) (neg : Bool) (E : Int) (S : Value) (b0 : List Value × TypeId) : Hp := ⟨2 + L.length, L ++ [bOf neg E S, b0]⟩
def fr7 (x0 : Value) (m t : Int) : List Value := [x0, .int .i64 m, .pointer (some ⟨1, 0, none⟩), undef, .int .u64 0, .int .i64 0, .int .i64 t]
def fl (y : Bool) : Int := match y with | true => 24 | false => 16
def aB (b o : Nat) : Option Addr := some ⟨b, o, none⟩
def vF (h : Hp) (k : Nat) (d : Bool) (V : Nat) : Nat := match d with | true => vO h (aB k 0) (d16 V).length | false => vO h none 0
def okF (h : Hp) (k : Nat) (d : Bool) (V : Nat) : Bool := match d with | true => okLen h (aB k 0) (d16 V).length (d16 V).length | false => okLen h none 0 0
def qB (m : Int) (neg : Bool) (h : Hp) (b o n : Nat) (E N : Int) : Nat := toQ m neg (vO h (aB b o) n) E N
theorem ro_e0 (d : Bool) (L : List (List Value × TypeId)) (hL : L.length ≤ 1) (neg : Bool) (x0 : Value) (E m t : Int) (b o n c : Nat) (b0 : List Value × TypeId) (g : Nat → Value) :
    GoesT (evL (tabH Try.prog extY conQ hcQ) 200 (rS3 Try.f28) (fr7 x0 m t ++ tl 102 g, hB L neg E (sl b o n c) b0, [cmp d, cmp false]) ⟨[], [], []⟩) 11 98 none
      (fr7 x0 m t ++ [.int .i64 (nOf t), sRw (hB L neg E (sl b o n c) b0).n d (qB m neg (hB L neg E (sl b o n c) b0) b o n E (nOf t)), .bool false, .int .i64 0])
      (pRw (hB L neg E (sl b o n c) b0) d (qB m neg (hB L neg E (sl b o n c) b0) b o n E (nOf t)))
      [(toL (vO (hB L neg E (sl b o n c) b0) (aB b o) n) E (nOf t), false), (rowTo m neg (vO (hB L neg E (sl b o n c) b0) (aB b o) n) n E (nOf t), d), (okTo (hB L neg E (sl b o n c) b0) (aB b o) n c E (nOf t), true)] := by
  rcases L with _ | ⟨u, _ | ⟨u', L⟩⟩
  · cases d <;> exact ⟨by kernel_rfl, by kernel_rfl, by kernel_rfl⟩
  · cases d <;> exact ⟨by kernel_rfl, by kernel_rfl, by kernel_rfl⟩
  · exact absurd hL (by simp)
theorem ro_e1 (d d2 y e2 : Bool) (L : List (List Value × TypeId)) (hL : L.length ≤ 1) (neg : Bool) (x0 : Value) (E m t : Int) (b o n c : Nat) (b0 : List Value × TypeId) (g : Nat → Value) (Q Q2 : Nat) (hQ : Q = qB m neg (hB L neg E (sl b o n c) b0) b o n E (nOf t)) (hQ2 : Q2 = qB m neg (pRw (hB L neg E (sl b o n c) b0) d Q) b o n E (dif t 53)) :
    GoesT (evL (tabH Try.prog extY conQ hcQ) 200 (rS3 Try.f28) (fr7 x0 m t ++ tl 102 g, hB L neg E (sl b o n c) b0, [cmp d, cmp true, cmp d2, cmp e2, cmp y]) ⟨[], [], []⟩) 11 98 none
      (fr7 x0 m t ++ [.int .i64 (nOf t), sRw (hB L neg E (sl b o n c) b0).n d Q, .bool true, .int .i64 (fl y)])
      (pRw (pRw (hB L neg E (sl b o n c) b0) d Q) d2 Q2)
      [(decide (dif (sumI ((bl (vF (pRw (pRw (hB L neg E (sl b o n c) b0) d Q) d2 Q2) (pRw (hB L neg E (sl b o n c) b0) d Q).n d2 Q2) : Nat) : Int) t) 53 ≤ -1022), y), (okF (pRw (pRw (hB L neg E (sl b o n c) b0) d Q) d2 Q2) (pRw (hB L neg E (sl b o n c) b0) d Q).n d2 Q2, true),
       (toL (vO (pRw (hB L neg E (sl b o n c) b0) d Q) (aB b o) n) E (dif t 53), e2), (rowTo m neg (vO (pRw (hB L neg E (sl b o n c) b0) d Q) (aB b o) n) n E (dif t 53), d2), (okTo (pRw (hB L neg E (sl b o n c) b0) d Q) (aB b o) n c E (dif t 53), true),
       (toL (vO (hB L neg E (sl b o n c) b0) (aB b o) n) E (nOf t), true), (rowTo m neg (vO (hB L neg E (sl b o n c) b0) (aB b o) n) n E (nOf t), d), (okTo (hB L neg E (sl b o n c) b0) (aB b o) n c E (nOf t), true)] := by
  subst hQ2
  subst hQ
  rcases L with _ | ⟨u, _ | ⟨u', L⟩⟩
  · cases d <;> cases d2 <;> cases y <;> exact ⟨by kernel_rfl, by kernel_rfl, by kernel_rfl⟩
  · cases d <;> cases d2 <;> cases y <;> exact ⟨by kernel_rfl, by kernel_rfl, by kernel_rfl⟩
  · exact absurd hL (by simp)
def pk (N s : Int) : Int := IntKind.u64.wrap (IntKind.u64.wrap (IntKind.u64.wrap (IntKind.u64.wrap (IntKind.i64.wrap (N + 1075)) * 4503599627370496) + s) - 4503599627370496)
def lwR (h : Hp) (p : Option Addr) (n : Nat) : Int := ((vO h p n % 18446744073709551616 : Nat) : Int)
def fr6 (x0 : Value) (m r f : Int) : List Value := [x0, .int .i64 m, .pointer (some ⟨1, 0, none⟩), undef, .int .u64 r, .int .i64 f]
section
variable (L : List (List Value × TypeId)) (hL : L.length ≤ 3) (neg : Bool) (x0 : Value) (E m t N f : Int) (S : Value) (p : Option Addr) (nq cq : Nat) (e : Bool) (b0 : List Value × TypeId) (g : Nat → Value)
include hL
theorem ro_tO : GoesT (evC (tabH Try.prog extY conQ hcQ) 200 false (tC Try.f28 10) ((fr7 x0 m t ++ [.int .i64 N, .slice p nq cq, .bool e, .int .i64 f]) ++ tl 98 g, hB L neg E S b0, [cmp true]) ⟨[], [], []⟩) 6 103 (some none) (fr6 x0 m (sS neg (bey m neg)) 20) (hB L neg E S b0)
    [okP (bey m neg), (decide (sumI ((bl (vO (hB L neg E S b0) p nq) : Nat) : Int) N > 1024), true), (okLen (hB L neg E S b0) p nq cq, true)] := by
  rcases L with _ | ⟨u, _ | ⟨u', _ | ⟨u'', _ | ⟨u3, L⟩⟩⟩⟩
  iterate 4
    · exact ⟨by kernel_rfl, by kernel_rfl, by kernel_rfl⟩
  · exact absurd hL (by simp)
theorem ro_t1 : GoesT (evC (tabH Try.prog extY conQ hcQ) 200 false (tC Try.f28 10) ((fr7 x0 m t ++ [.int .i64 N, .slice p nq cq, .bool e, .int .i64 f]) ++ tl 98 g, hB L neg E S b0, [cmp false, cmp false, cmp false]) ⟨[], [], []⟩) 6 103 (some none) (fr6 x0 m (sS neg (lwR (hB L neg E S b0) p nq)) f) (hB L neg E S b0)
    [okP (lwR (hB L neg E S b0) p nq), (decide (lwR (hB L neg E S b0) p nq ≥ 4503599627370496), false), (lwR (hB L neg E S b0) p nq == 9007199254740992, false), (rowS (hB L neg E S b0) p nq cq, true), (decide (sumI ((bl (vO (hB L neg E S b0) p nq) : Nat) : Int) N > 1024), false), (okLen (hB L neg E S b0) p nq cq, true)] := by
  rcases L with _ | ⟨u, _ | ⟨u', _ | ⟨u'', _ | ⟨u3, L⟩⟩⟩⟩
  iterate 4
    · exact ⟨by kernel_rfl, by kernel_rfl, by kernel_rfl⟩
  · exact absurd hL (by simp)
theorem ro_t2 : GoesT (evC (tabH Try.prog extY conQ hcQ) 200 false (tC Try.f28 10) ((fr7 x0 m t ++ [.int .i64 N, .slice p nq cq, .bool e, .int .i64 f]) ++ tl 98 g, hB L neg E S b0, [cmp false, cmp false, cmp true]) ⟨[], [], []⟩) 6 103 (some none) (fr6 x0 m (sS neg (pk N (lwR (hB L neg E S b0) p nq))) f) (hB L neg E S b0)
    [okP (pk N (lwR (hB L neg E S b0) p nq)), (decide (lwR (hB L neg E S b0) p nq ≥ 4503599627370496), true), (lwR (hB L neg E S b0) p nq == 9007199254740992, false), (rowS (hB L neg E S b0) p nq cq, true), (decide (sumI ((bl (vO (hB L neg E S b0) p nq) : Nat) : Int) N > 1024), false), (okLen (hB L neg E S b0) p nq cq, true)] := by
  rcases L with _ | ⟨u, _ | ⟨u', _ | ⟨u'', _ | ⟨u3, L⟩⟩⟩⟩
  iterate 4
    · exact ⟨by kernel_rfl, by kernel_rfl, by kernel_rfl⟩
  · exact absurd hL (by simp)
theorem ro_t3 : GoesT (evC (tabH Try.prog extY conQ hcQ) 200 false (tC Try.f28 10) ((fr7 x0 m t ++ [.int .i64 N, .slice p nq cq, .bool e, .int .i64 f]) ++ tl 98 g, hB L neg E S b0, [cmp false, cmp true]) ⟨[], [], []⟩) 6 103 (some none) (fr6 x0 m (sS neg (pk (sumI N 1) 4503599627370496)) f) (hB L neg E S b0)
    [okP (pk (sumI N 1) 4503599627370496), (lwR (hB L neg E S b0) p nq == 9007199254740992, true), (rowS (hB L neg E S b0) p nq cq, true), (decide (sumI ((bl (vO (hB L neg E S b0) p nq) : Nat) : Int) N > 1024), false), (okLen (hB L neg E S b0) p nq cq, true)] := by
  rcases L with _ | ⟨u, _ | ⟨u', _ | ⟨u'', _ | ⟨u3, L⟩⟩⟩⟩
  iterate 4
    · exact ⟨by kernel_rfl, by kernel_rfl, by kernel_rfl⟩
  · exact absurd hL (by simp)
end
end Go.Proofs.Ytehfjljnaencjaa

/-
  The document's Round (tillerref04): what its third and last piece answer.
-/
namespace Go.Proofs.Ytehfjljnaencjaa
open Go.KRun Go.Nt Go.Wd Go.Rn
set_option maxRecDepth 100000
set_option linter.unusedVariables false

theorem row_zero {m : Int} {neg : Bool} {T n : Nat} {E N : Int} (hT : T < 65536 ^ n) (h : rowTo m neg T n E N = false) : toQ m neg T E N = 0 := by
  unfold rowTo at h
  unfold toQ
  split at h
  · rename_i hu
    rw [if_pos hu]
    have := of_decide_eq_false h
    have e : n = 0 := by omega
    rw [e, Nat.pow_zero] at hT
    have : T = 0 := by omega
    rw [this, Nat.zero_mul]
  · rename_i hu
    rw [if_neg hu]
    rw [Bool.or_eq_false_iff] at h
    have h1 := of_decide_eq_false h.1
    have hz : T / 2 ^ (N - E).toNat = 0 := by
      refine Nat.div_eq_of_lt (Nat.lt_of_lt_of_le hT ?_)
      rw [pow16]
      exact Nat.pow_le_pow_right (by omega) (by omega)
    by_cases hl : T % 2 ^ (N - E).toNat = 0
    · rw [rq_exact hl, hz]
    · have h2 := h.2
      rw [decide_eq_true hl, Bool.true_and] at h2
      unfold rq
      rw [h2, hz]
      rfl
def QOk (h : Hp) (v : Value) (Q : Nat) : Prop := ∃ p nq cq, v = .slice p nq cq ∧ vO h p nq = Q ∧ okLen h p nq cq = true ∧ rowS h p nq cq = true
theorem d16_53 {Q : Nat} (h : Q ≤ 9007199254740992) : (d16 Q).length ≤ 4 := d16_len (k := 4) (by omega)
theorem okLen_d16 {h : Hp} {k Q : Nat} (hb : h.blk? k = some (wU (d16 Q), tU)) (hQ : Q ≤ 9007199254740992) : okLen h (some ⟨k, 0, none⟩) (d16 Q).length (d16 Q).length = true := by
  have hl := d16_53 hQ
  unfold okLen
  rw [rowP_d16 hb (by omega), rowOf_d16 hb, show canB (d16 Q) = true from canB_mk (can_db (by omega) Q), blt_iff.2 (by omega)]
  rfl
theorem qok_of {h : Hp} {k Q : Nat} {d : Bool} (h1 : d = true → h.blk? k = some (wU (d16 Q), tU)) (h0 : d = false → Q = 0) (hQ : Q ≤ 9007199254740992) : QOk h (sRw k d Q) Q := by
  cases d
  · refine ⟨none, 0, 0, rfl, ?_, rfl, rfl⟩
    rw [h0 rfl]
    rfl
  · have hb := h1 rfl
    have hl := d16_53 hQ
    refine ⟨some ⟨k, 0, none⟩, _, _, rfl, vO_d16 hb, okLen_d16 hb hQ, ?_⟩
    unfold rowS
    rw [rowP_d16 hb (by omega), dgB_d16 hb, blt_iff.2 (by omega)]
    rfl
def rowL (d : Bool) (Q : Nat) : List (List Value × TypeId) := match d with | true => [(wU (d16 Q), tU)] | false => []
theorem rowL_len (d : Bool) (Q : Nat) : (rowL d Q).length ≤ 1 := by cases d <;> simp [rowL]
theorem pRw_hB (L : List (List Value × TypeId)) (neg : Bool) (E : Int) (S : Value) (b0 : List Value × TypeId) (d : Bool) (Q : Nat) : pRw (hB L neg E S b0) d Q = hB (rowL d Q ++ L) neg E S b0 := by cases d <;> rfl
theorem hB_len (L : List (List Value × TypeId)) (neg : Bool) (E : Int) (S : Value) (b0 : List Value × TypeId) : (hB L neg E S b0).l.length = (hB L neg E S b0).n := by
  simp [hB]; omega
theorem pRw_len {h : Hp} (hl : h.l.length = h.n) (d : Bool) (Q : Nat) : (pRw h d Q).l.length = (pRw h d Q).n := by
  cases d
  · exact hl
  · simp [pRw, Hp.push, hl]
theorem pRw_old {h : Hp} (hl : h.l.length = h.n) (d : Bool) (Q : Nat) {b : Nat} {x : List Value × TypeId} (hb : h.blk? b = some x) : (pRw h d Q).blk? b = some x := by
  cases d
  · exact hb
  · have := Hp.blk_lt hb
    show (h.push _ _).blk? b = _
    rw [Hp.blk_push hl, if_neg (by omega)]
    exact hb
theorem pRw_new {h : Hp} (hl : h.l.length = h.n) (d : Bool) (Q : Nat) (hd : d = true) : (pRw h d Q).blk? h.n = some (wU (d16 Q), tU) := by
  subst hd
  show (h.push _ _).blk? _ = _
  rw [Hp.blk_push hl, if_pos rfl]
theorem bey_rng (m : Int) (neg : Bool) : 0 ≤ bey m neg ∧ bey m neg ≤ 9218868437227405312 := by unfold bey; split <;> omega
theorem okP_ok {p : Int} (h : 0 ≤ p ∧ p ≤ 9218868437227405312) : decide (0 ≤ p ∧ p ≤ 9218868437227405312) = true := decide_eq_true h
theorem pk_eq {N s : Int} (h0 : -1074 ≤ N) (h1 : N ≤ 2000) (h2 : 4503599627370496 ≤ s) (h3 : s ≤ 9007199254740992) : pk N s = (N + 1074) * 4503599627370496 + s := by
  unfold pk
  have e1 : IntKind.u64.wrap (N + 1075) = N + 1075 := Go.Pt.wrapU' ⟨by omega, by omega⟩
  have e2 : IntKind.u64.wrap ((N + 1075) * 4503599627370496) = (N + 1075) * 4503599627370496 := Go.Pt.wrapU' ⟨by omega, by omega⟩
  have e3 : IntKind.u64.wrap ((N + 1075) * 4503599627370496 + s) = (N + 1075) * 4503599627370496 + s := Go.Pt.wrapU' ⟨by omega, by omega⟩
  rw [wrapI (by omega) (by omega), e1, e2, e3, Go.Pt.wrapU' ⟨by omega, by omega⟩]
  omega
def roOut (m : Int) (neg : Bool) (T : Nat) (E : Int) (ex : Ex) (z : Lf) : Prop := (ex = none ∨ ex = some none) ∧ resS Try.prog Try.f28 z.1 z.2.1 = some (.tuple #[.int .u64 (sS neg (rnP m neg T E)), .int .i64 (rnF m neg T E)])
theorem ro_out {x0 : Value} {m r f : Int} {neg : Bool} {T : Nat} {E : Int} {h : Hp} (h1 : r = sS neg (rnP m neg T E)) (h2 : f = rnF m neg T E) : ∀ ex z, (ex = some none ∧ (∃ g, z.1 = fr6 x0 m r f ++ tl 103 g) ∧ z.2.1 = h) → roOut m neg T E ex z := by
  rintro ex z ⟨rfl, ⟨g, z1⟩, z2⟩
  subst h1 h2
  refine ⟨.inr rfl, ?_⟩
  rw [z1]
  rfl
theorem ro_last {L : List (List Value × TypeId)} (hL : L.length ≤ 3) {neg : Bool} {x0 : Value} {E' E m t f : Int} {S q : Value} {e : Bool} {b0 : List Value × TypeId} {g : Nat → Value} {T : Nat} (hT : T ≠ 0) (hq : QOk (hB L neg E' S b0) q (toQ m neg T E (lowE T E))) (hlo : lowE T E ≤ 1100) (hf : ¬ 9218868437227405312 ≤ p0 m neg T E → f = rnF m neg T E) :
    RunsW (tabH Try.prog extY conQ hcQ) (tC Try.f28 10) ((fr7 x0 m t ++ [.int .i64 (lowE T E), q, .bool e, .int .i64 f]) ++ tl 98 g, hB L neg E' S b0, []) (roOut m neg T E) := by
  obtain ⟨p, nq, cq, rfl, hv, hok, hrs⟩ := hq
  have hge := lowE_ge T E
  have hhi := low_hi m neg T E
  have hover := over_doc (m := m) (neg := neg) (E := E) hT
  have hbl : bitLen (toQ m neg T E (lowE T E)) ≤ 54 := by
    have : toQ m neg T E (lowE T E) < 2 ^ 54 := by have e : (2 : Nat) ^ 54 = 18014398509481984 := rfl; omega
    exact len_le this
  have hsum : sumI ((bl (vO (hB L neg E' S b0) p nq) : Nat) : Int) (lowE T E) = (bitLen (toQ m neg T E (lowE T E)) : Int) + lowE T E := by
    rw [hv, bl_bitLen]
    unfold sumI
    exact wrapI (by omega) (by omega)
  have hlw : lwR (hB L neg E' S b0) p nq = ((toQ m neg T E (lowE T E) : Nat) : Int) := by
    unfold lwR
    rw [hv, Nat.mod_eq_of_lt (by omega)]
  by_cases ho : 9218868437227405312 ≤ p0 m neg T E
  · refine (goesT_runsW (tabH_ok conQ_ok hcQ_ok) (ro_tO L hL neg x0 E' m t (lowE T E) f S p nq cq e b0 g) (okCons (okP_ok (bey_rng m neg)) (okCons ?_ (okL1 hok)))).mono (ro_out ?_ ?_)
    · rw [hsum, hover]
      exact decide_eq_true ho
    · unfold rnP
      rw [if_neg hT, if_pos ho]
    · unfold rnF
      rw [if_neg hT, if_pos ho]
  · have hno : decide (sumI ((bl (vO (hB L neg E' S b0) p nq) : Nat) : Int) (lowE T E) > 1024) = false := by
      rw [hsum, hover]
      exact decide_eq_false ho
    have hr : rnP m neg T E = p0 m neg T E := by
      unfold rnP
      rw [if_neg hT, if_neg ho]
    have hp0 : p0 m neg T E = (lowE T E + 1074) * 4503599627370496 + (toQ m neg T E (lowE T E) : Nat) := rfl
    by_cases h53 : toQ m neg T E (lowE T E) = 9007199254740992
    · have es : sumI (lowE T E) 1 = lowE T E + 1 := by unfold sumI; exact wrapI (by omega) (by omega)
      have ep : pk (sumI (lowE T E) 1) 4503599627370496 = p0 m neg T E := by
        rw [es, pk_eq (by omega) (by omega) (by omega) (by omega), hp0, h53]
        omega
      refine (goesT_runsW (tabH_ok conQ_ok hcQ_ok) (ro_t3 L hL neg x0 E' m t (lowE T E) f S p nq cq e b0 g) (okCons (okP_ok ?_) (okCons ?_ (okCons hrs (okCons hno (okL1 hok)))))).mono (ro_out ?_ (hf ho))
      · rw [ep]
        omega
      · rw [hlw, h53]
        rfl
      · rw [ep, hr]
    · have n53 : (lwR (hB L neg E' S b0) p nq == 9007199254740992) = false := by
        rw [hlw]
        simp only [beq_eq_false_iff_ne, ne_eq]
        omega
      by_cases h52 : 4503599627370496 ≤ toQ m neg T E (lowE T E)
      · have ep : pk (lowE T E) (lwR (hB L neg E' S b0) p nq) = p0 m neg T E := by
          rw [hlw, pk_eq (by omega) (by omega) (by omega) (by omega), hp0]
        refine (goesT_runsW (tabH_ok conQ_ok hcQ_ok) (ro_t2 L hL neg x0 E' m t (lowE T E) f S p nq cq e b0 g) (okCons (okP_ok ?_) (okCons ?_ (okCons n53 (okCons hrs (okCons hno (okL1 hok))))))).mono (ro_out ?_ (hf ho))
        · rw [ep]
          omega
        · rw [hlw]
          exact decide_eq_true (by omega)
        · rw [ep, hr]
      · have hn : lowE T E = -1074 := by
          by_cases hc : -1074 ≤ lgN T E - 52
          · exact absurd (low_lo (m := m) (neg := neg) hT hc) h52
          · unfold lowE
            rw [if_pos (by omega)]
        have ep : lwR (hB L neg E' S b0) p nq = p0 m neg T E := by
          rw [hlw, hp0, hn]
          omega
        refine (goesT_runsW (tabH_ok conQ_ok hcQ_ok) (ro_t1 L hL neg x0 E' m t (lowE T E) f S p nq cq e b0 g) (okCons (okP_ok ?_) (okCons ?_ (okCons n53 (okCons hrs (okCons hno (okL1 hok))))))).mono (ro_out ?_ (hf ho))
        · rw [ep]
          omega
        · rw [hlw]
          exact decide_eq_false (by omega)
        · rw [ep, hr]
end Go.Proofs.Ytehfjljnaencjaa
