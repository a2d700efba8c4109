/-
  A RUN THAT THE KERNEL RECKONS, XIV: pieces of code told by the first temporaries and by some further on.
-/
import Derived.Test.YtppakongkjdlbaaDoorG05
import Derived.Test.YtppakongkjdlbaaDoorG06
import Derived.Test.YtppakongkjdlbaaDoorG07
namespace Go.KRun
open Go.RowKit

/-- temporaries: the first, some of which nothing is known, some that are, the rest -/
def ml (front : List Value) (b : Nat) (g : Nat → Value) (mid : List Value) (n : Nat) (g' : Nat → Value) : List Value := front ++ (tl b g ++ (mid ++ tl n g'))
def GoesM (r : Option (Ex × Lf × Lg)) (a b c n : Nat) (e : Ex) (front mid : List Value) (h : Hp) (cs : Log) : Prop :=
  r.map (fun r => (r.1, r.2.1.1.take a, ((r.2.1.1.drop a).take b).length, ((r.2.1.1.drop a).drop b).take c, (((r.2.1.1.drop a).drop b).drop c).length, r.2.1.2.1, r.2.2.cs)) = some (e, front, b, mid, n, h, cs) ∧
    r.map (fun r => r.2.2.es.map Prod.fst) = r.map (fun r => r.2.2.es.map Prod.snd) ∧ r.map (fun r => r.2.2.bs.map Prod.fst) = r.map (fun r => r.2.2.bs.map Prod.snd)
theorem goesM_some {r : Option (Ex × Lf × Lg)} {a b c n : Nat} {e : Ex} {front mid : List Value} {h : Hp} {cs : Log} (hG : GoesM r a b c n e front mid h cs) (hcs : okLog cs) : ∃ g g' s L, r = some (e, (ml front b g mid n g', h, s), L) ∧ L.ok := by
  obtain ⟨h1, h5, h6⟩ := hG
  cases r with
  | none => cases h1
  | some r =>
    simp only [Option.map_some, Option.some.injEq, Prod.mk.injEq] at h1 h5 h6
    obtain ⟨e', ⟨t', h', s'⟩, L⟩ := r
    simp only at h1 h5 h6
    obtain ⟨h1, h2, h3, h4, h7, h8, h9⟩ := h1
    subst h1 h8
    obtain ⟨g, hg⟩ := tl_of h3
    obtain ⟨g', hg'⟩ := tl_of h7
    refine ⟨g, g', s', L, ?_, by rw [h9]; exact hcs, all_eq _ h5, all_eq _ h6⟩
    unfold ml
    rw [← h2, ← hg, ← h4, ← hg', List.take_append_drop, List.take_append_drop, List.take_append_drop]
theorem goesM_runs {T : Tab} (hT : TabOk T) {N : Nat} {c : Code} {t : List Value} {h h' : Hp} {s s0 : List Dec} {a b k n : Nat} {e : Ex} {front mid : List Value} {cs : Log} (hG : GoesM (evC T N false c (t, h, s) ⟨[], [], []⟩) a b k n e front mid h' cs) (hcs : okLog cs) :
    Runs T c (t, h, s0) fun e' y => e' = e ∧ (∃ g g', y.1 = ml front b g mid n g') ∧ y.2.1 = h' := by
  obtain ⟨g, g', s', L, hr, hL⟩ := goesM_some hG hcs
  refine Runs.script ((Runs.ev hT hr hL).mono fun e2 y he => ?_)
  obtain ⟨rfl, rfl⟩ := he
  exact ⟨rfl, ⟨g, g', rfl⟩, rfl⟩
end Go.KRun

/-
  PLAIN ARITHMETIC: numbers of words of 32 bits, the lowest first.
-/
namespace Go.Nt

def vN : List Int → Int
  | [] => 0
  | x :: r => x + 4294967296 * vN r
/-- the lowest m words of a number -/
def dg : Nat → Int → List Int
  | 0, _ => []
  | m + 1, V => V % 4294967296 :: dg m (V / 4294967296)
def wds (L : List Int) : Prop := ∀ x ∈ L, 0 ≤ x ∧ x < 4294967296
theorem dg_len : ∀ (m : Nat) (V : Int), (dg m V).length = m
  | 0, _ => rfl
  | m + 1, V => by simp [dg, dg_len m]
theorem dg_wds : ∀ (m : Nat) (V : Int), wds (dg m V)
  | 0, _ => fun x hx => by cases hx
  | m + 1, V => fun x hx => by
    simp only [dg, List.mem_cons] at hx
    rcases hx with rfl | hx
    · omega
    · exact dg_wds m _ x hx
theorem wds_tail {x : Int} {L : List Int} (h : wds (x :: L)) : (0 ≤ x ∧ x < 4294967296) ∧ wds L := ⟨h x List.mem_cons_self, fun y hy => h y (List.mem_cons_of_mem _ hy)⟩
theorem dg_vN : ∀ L : List Int, wds L → dg L.length (vN L) = L
  | [], _ => rfl
  | x :: r, h => by
    obtain ⟨h1, h2⟩ := wds_tail h
    have ih := dg_vN r h2
    simp only [List.length_cons, dg, vN]
    have e1 : (x + 4294967296 * vN r) % 4294967296 = x := by omega
    have e2 : (x + 4294967296 * vN r) / 4294967296 = vN r := by omega
    rw [e1, e2, ih]
theorem pw (k : Nat) : (4294967296 : Int) ^ (k + 1) = 4294967296 * 4294967296 ^ k := by rw [Int.pow_succ, Int.mul_comm]
theorem pw_pos (k : Nat) : (0 : Int) < 4294967296 ^ k := Int.pow_pos (by omega)
theorem pw_le {i j : Nat} (h : i ≤ j) : (4294967296 : Int) ^ i ≤ 4294967296 ^ j := by
  have h1 : ∀ k : Nat, ((4294967296 ^ k : Nat) : Int) = 4294967296 ^ k := fun k => by simp
  rw [← h1, ← h1]
  have := Nat.pow_le_pow_right (n := 4294967296) (by omega) h
  omega
theorem vN_bd : ∀ L : List Int, wds L → 0 ≤ vN L ∧ vN L < 4294967296 ^ L.length
  | [], _ => by simp [vN]
  | x :: r, h => by
    obtain ⟨h1, h2⟩ := wds_tail h
    have ih := vN_bd r h2
    simp only [List.length_cons, vN]
    rw [pw]
    omega
theorem vN_snoc : ∀ (L : List Int) (d : Int), vN (L ++ [d]) = vN L + 4294967296 ^ L.length * d
  | [], d => by simp [vN]
  | x :: r, d => by
    have ih := vN_snoc r d
    simp only [List.cons_append, vN, List.length_cons]
    rw [ih, pw, Int.mul_assoc, Int.mul_add]
    omega
theorem vN_app : ∀ (L M : List Int), vN (L ++ M) = vN L + 4294967296 ^ L.length * vN M
  | [], M => by simp [vN]
  | x :: r, M => by
    have ih := vN_app r M
    simp only [List.cons_append, vN, List.length_cons]
    rw [ih, pw, Int.mul_assoc, Int.mul_add]
    omega
theorem wds_app {L M : List Int} (h1 : wds L) (h2 : wds M) : wds (L ++ M) := fun x hx => by
  rcases List.mem_append.1 hx with hx | hx
  · exact h1 x hx
  · exact h2 x hx
/-- one word more of a sum -/
theorem sum_step {P a b c x y d e A B : Int} (he : x + y + c = d + 4294967296 * e) (h : a + P * (x + 4294967296 * A + (y + 4294967296 * B) + c) = b) : a + P * d + 4294967296 * P * (A + B + e) = b := by
  rw [← h]
  have e1 : x + 4294967296 * A + (y + 4294967296 * B) + c = d + 4294967296 * (A + B + e) := by omega
  rw [e1]
  generalize A + B + e = Z
  rw [Int.mul_add P d, ← Int.mul_assoc P 4294967296 Z, Int.mul_comm P 4294967296]
  omega
end Go.Nt

/-
  nat.Add, as a call with two rows: its pieces.
-/
namespace Go.Proofs.YtppakongkjdlbaaDoor
open Go.KRun Go.Nt
set_option maxRecDepth 100000

def conA : Con := alt 37 gAdd32 conN
theorem conA_ok : ConOk conA := alt_ok Tryd.func37 rfl gAdd32_ok conN_ok
def hcA : Hc := altH 36 gBoth (altH 41 gTrim hcN)
theorem hcA_ok : HcOk hcA := altH_ok Tryd.func36 rfl gBoth_ok (altH_ok Tryd.func41 rfl gTrim_ok hcN_ok)
def sn (k : Nat) (F : Func) : Code := match k with | 0 => cBody F | k + 1 => cSnd (sn k F)
def aPre (F : Func) : List Code := [cFst (sn 0 F), cFst (sn 1 F), cFst (sn 2 F), cFst (sn 3 F), cFst (sn 4 F), cFst (sn 5 F)]
def aR9 (F : Func) : Code := cFst (cFst (sn 6 F))
def aL0 (F : Func) : Code := cIn (cIn (cSnd (cFst (sn 6 F))))
def aR14 (F : Func) : Code := cFst (cFst (sn 7 F))
def aL2 (F : Func) : Code := cIn (cIn (cSnd (cFst (sn 7 F))))
def aFin (F : Func) : Code := sn 8 F
theorem add_body : Tryd.f10.body = some (seqs (aPre Tryd.f10) (.seq (.seq (aR9 Tryd.f10) (.block 0 (.loop (aL0 Tryd.f10)))) (.seq (.seq (aR14 Tryd.f10) (.block 2 (.loop (aL2 Tryd.f10)))) (aFin Tryd.f10)))) := by kernel_rfl
/-- the new row's length; the row behind the copy -/
def nP (n : Nat) : Int := IntKind.i64.wrap ((n : Int) + 1)
def cpy (la : List Value) (o n : Nat) : List Value := (List.replicate (nP n).toNat (uu 0)).take 0 ++ (la.drop o).take (Nat.min n (nP n).toNat) ++ (List.replicate (nP n).toNat (uu 0)).drop (0 + Nat.min n (nP n).toNat)
def h3 (la lb S : List Value) : Hp := ⟨3, [(S, tU), (lb, tR), (la, tR)]⟩
def cpOk (la : List Value) (o n : Nat) : Bool := !(tomb tR) && !(ro tU) && Nat.ble (o + Nat.min n (nP n).toNat) la.length && Nat.ble (0 + Nat.min n (nP n).toNat) (List.replicate (nP n).toNat (uu 0)).length && ((la.drop o).take (Nat.min n (nP n).toNat)).all one
def aF (a b s c i x k : Value) : List Value := [a, b, undef, undef, nilS, .nilIface, .nilIface, s, c, i, x, k]
theorem add_pre (o n c o' n' c' : Nat) (la lb : List Value) : GoesT (evL (tabH Tryd.prog extY conA hcA) 200 (aPre Tryd.f10) ([sl 0 o n c, sl 1 o' n' c'] ++ List.replicate 73 undef, h2 la lb, [cmp false, cmp false, at_, at_]) ⟨[], [], []⟩) 12 63 none
    (aF (sl 0 o n c) (sl 1 o' n' c') (sl 2 0 (nP n).toNat (nP n).toNat) (uu 0) undef undef undef) (h3 la lb (cpy la o n)) [(cpOk la o n, true), (okMakeB 4 (nP n) (nP n), true), (decide ((n : Int) < n'), false), chkL la o n c, chkL lb o' n' c', (badL (cutI la o n) || badL (cutI lb o' n'), false)] := ⟨by kernel_rfl, by kernel_rfl, by kernel_rfl⟩
theorem add_swap (o n c o' n' c' : Nat) (la lb : List Value) : GoesT (evL (tabH Tryd.prog extY conA hcA) 200 (aPre Tryd.f10) ([sl 0 o n c, sl 1 o' n' c'] ++ List.replicate 73 undef, h2 la lb, [cmp false, cmp true, at_, at_]) ⟨[], [], []⟩) 12 63 none
    (aF (sl 1 o' n' c') (sl 0 o n c) (sl 2 0 (nP n').toNat (nP n').toNat) (uu 0) undef undef undef) (h3 la lb (cpy lb o' n')) [(cpOk lb o' n', true), (okMakeB 4 (nP n') (nP n'), true), (decide ((n : Int) < n'), true), chkL la o n c, chkL lb o' n' c', (badL (cutI la o n) || badL (cutI lb o' n'), false)] := ⟨by kernel_rfl, by kernel_rfl, by kernel_rfl⟩
def inR (i : Int) (n : Nat) : Bool × Bool := (decide (0 ≤ i ∧ i < n), true)
def celR (l : List Value) (o : Nat) (i x : Int) : Bool × Bool := (cellIs (l[o + i.toNat * 1]?) (uu x), true)
def stoR (l : List Value) (i : Int) : Bool × Bool := (decide (0 + i.toNat * 1 < l.length), true)
def sD (x y c : Int) : Int := (x + y + c) % 4294967296
def sC (x y c : Int) : Int := (x + y + c) / 4294967296
theorem add_r9 (a s c i x k : Value) (q o n e : Nat) (h : Hp) (g : Nat → Value) : GoesM (evC (tabH Tryd.prog extY conA hcA) 200 false (aR9 Tryd.f10) (aF a (sl q o n e) s c i x k ++ tl 63 g, h, []) ⟨[], [], []⟩) 12 20 3 40 none
    (aF a (sl q o n e) s c i x k) [sl q o n e, i6' n, i6' 0] h [] := ⟨by kernel_rfl, by kernel_rfl, by kernel_rfl⟩
theorem add_out0 (a b s c i x k : Value) (t : Value) (n : Nat) (j : Int) (h : Hp) (g g' : Nat → Value) : GoesM (evC (tabH Tryd.prog extY conA hcA) 200 false (aL0 Tryd.f10) (ml (aF a b s c i x k) 20 g [t, i6' n, i6' j] 40 g', h, [cmp false]) ⟨[], [], []⟩) 12 20 3 40 (some (some 0))
    (aF a b s c i x k) [t, i6' n, i6' j] h [(decide (j < n), false)] := ⟨by kernel_rfl, by kernel_rfl, by kernel_rfl⟩
/-- a round of the first loop, the shorter row being block 1 -/
theorem add_go1 (a b i0 x0 k0 : Value) (o n e N M : Nat) (c j x y : Int) (la lb S : List Value) (g g' : Nat → Value) : GoesM (evC (tabH Tryd.prog extY conA hcA) 200 false (aL0 Tryd.f10) (ml (aF a b (sl 2 0 N M) (uu c) i0 x0 k0) 20 g [sl 1 o n e, i6' n, i6' j] 40 g', h3 la lb S, [cmp true, at_, val (uu y), at_, val (uu x), at_, at_]) ⟨[], [], []⟩) 12 20 3 40 none
    (aF a b (sl 2 0 N M) (uu (sC x y c)) (i6' j) (uu y) k0) [sl 1 o n e, i6' n, i6' (IntKind.i64.wrap (j + 1))] (h3 la lb (S.set (0 + j.toNat * 1) (uu (sD x y c)))) [stoR S j, inR j N, (wd4 x y c, true), celR S 0 j x, inR j N, celR lb o j y, inR j n, (decide (j < n), true)] := ⟨by kernel_rfl, by kernel_rfl, by kernel_rfl⟩
theorem add_go0 (a b i0 x0 k0 : Value) (o n e N M : Nat) (c j x y : Int) (la lb S : List Value) (g g' : Nat → Value) : GoesM (evC (tabH Tryd.prog extY conA hcA) 200 false (aL0 Tryd.f10) (ml (aF a b (sl 2 0 N M) (uu c) i0 x0 k0) 20 g [sl 0 o n e, i6' n, i6' j] 40 g', h3 la lb S, [cmp true, at_, val (uu y), at_, val (uu x), at_, at_]) ⟨[], [], []⟩) 12 20 3 40 none
    (aF a b (sl 2 0 N M) (uu (sC x y c)) (i6' j) (uu y) k0) [sl 0 o n e, i6' n, i6' (IntKind.i64.wrap (j + 1))] (h3 la lb (S.set (0 + j.toNat * 1) (uu (sD x y c)))) [stoR S j, inR j N, (wd4 x y c, true), celR S 0 j x, inR j N, celR la o j y, inR j n, (decide (j < n), true)] := ⟨by kernel_rfl, by kernel_rfl, by kernel_rfl⟩
theorem add_r14 (a s c i x k : Value) (q o n e : Nat) (t u v : Value) (h : Hp) (g g' : Nat → Value) : GoesT (evC (tabH Tryd.prog extY conA hcA) 200 false (aR14 Tryd.f10) (ml (aF a (sl q o n e) s c i x k) 20 g [t, u, v] 40 g', h, []) ⟨[], [], []⟩) 12 63 none
    (aF a (sl q o n e) s c i x (i6' n)) h [] := ⟨by kernel_rfl, by kernel_rfl, by kernel_rfl⟩
theorem add_out2 (a b s i x k : Value) (c : Int) (h : Hp) (g : Nat → Value) : GoesT (evC (tabH Tryd.prog extY conA hcA) 200 false (aL2 Tryd.f10) (aF a b s (uu c) i x k ++ tl 63 g, h, [cmp false]) ⟨[], [], []⟩) 12 63 (some (some 2))
    (aF a b s (uu c) i x k) h [(c != 0, false)] := ⟨by kernel_rfl, by kernel_rfl, by kernel_rfl⟩
theorem add_go2 (a b i0 x0 : Value) (N M : Nat) (c j x : Int) (la lb S : List Value) (g : Nat → Value) : GoesT (evC (tabH Tryd.prog extY conA hcA) 200 false (aL2 Tryd.f10) (aF a b (sl 2 0 N M) (uu c) i0 x0 (i6' j) ++ tl 63 g, h3 la lb S, [cmp true, at_, val (uu x), at_, at_]) ⟨[], [], []⟩) 12 63 none
    (aF a b (sl 2 0 N M) (uu (sC x 0 c)) i0 x0 (i6' (IntKind.i64.wrap (j + 1)))) (h3 la lb (S.set (0 + j.toNat * 1) (uu (sD x 0 c)))) [stoR S j, inR j N, (wd4 x 0 c, true), celR S 0 j x, inR j N, (c != 0, true)] := ⟨by kernel_rfl, by kernel_rfl, by kernel_rfl⟩
theorem add_fin (a b c i x k : Value) (N M : Nat) (la lb S : List Value) (g : Nat → Value) : GoesT (evC (tabH Tryd.prog extY conA hcA) 200 false (aFin Tryd.f10) (aF a b (sl 2 0 N M) c i x k ++ tl 63 g, h3 la lb S, [cmp false]) ⟨[], [], []⟩) 6 69 (some none)
    [a, b, undef, undef, sl 2 0 (trimN (cutI S 0 N)) M, .nilIface] (h3 la lb S) [(decide ((trimN (cutI S 0 N) : Int) > 8192), false), (rowOk tU S 0 N M, true)] := ⟨by kernel_rfl, by kernel_rfl, by kernel_rfl⟩
theorem add_long (a b c i x k : Value) (N M : Nat) (la lb S : List Value) (g : Nat → Value) : GoesT (evC (tabH Tryd.prog extY conA hcA) 200 false (aFin Tryd.f10) (aF a b (sl 2 0 N M) c i x k ++ tl 63 g, h3 la lb S, [cmp true]) ⟨[], [], []⟩) 6 69 (some none)
    [a, b, undef, undef, nilS, errV 2] (h3 la lb S) [(decide ((trimN (cutI S 0 N) : Int) > 8192), true), (rowOk tU S 0 N M, true)] := ⟨by kernel_rfl, by kernel_rfl, by kernel_rfl⟩
end Go.Proofs.YtppakongkjdlbaaDoor
