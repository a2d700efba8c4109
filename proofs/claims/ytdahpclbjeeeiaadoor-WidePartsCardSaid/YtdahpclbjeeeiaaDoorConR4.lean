/-
  The document's own sums and differences (tillerref01.Add, tillerref01.Sub), as calls: what they answer of any two numbers, in every world: a loop up the bits.
-/
import Derived.Test.YtdahpclbjeeeiaaDoorConR2
import Derived.Test.YtdahpclbjeeeiaaDoorNum3
import Derived.Test.YtdahpclbjeeeiaaDoorRunT
namespace Go.Proofs.YtdahpclbjeeeiaaDoor
open Go.KRun Go.Wd

def conB : Con := alt 17 (g1 bitsV4) conN
theorem conB_ok : ConOk conB := alt_ok Tryd.func17 rfl (g1_ok bits_calls) conN_ok
def okW (x : W4) : Bool × Bool := (decide x.ok, true)
def vL (l : List Int) : List Value := l.map (Value.int .i64)
def p_ (n : Nat) : Value := .pointer (some ⟨n, 0, none⟩)
abbrev i_ (n : Int) : Value := .int .i64 n
def W0 : List Value × TypeId := ([.int .u64 0, .int .u64 0, .int .u64 0, .int .u64 0], 31)
def xW (x : W4) : List Value × TypeId := ([.int .u64 x.a, .int .u64 x.b, .int .u64 x.c, .int .u64 x.d], 31)
def inr (i : Int) : Bool × Bool := (decide (0 ≤ i ∧ i < ((256 : Nat) : Int)), true)
def cel (l : List Value) (i g : Int) : Bool × Bool := (cellIs (l[0 + i.toNat * 1]?) (.int .i64 g), true)
def sto (l : List Value) (i : Int) : Bool × Bool := (decide (0 + i.toNat * 1 < l.length), true)
theorem bitsN_vL (x : W4) : bitsN x = vL (bitL 256 x.val) := by
  unfold bitsN vL bitL bt
  rw [List.map_map]
  rfl
theorem inr_ok {k : Nat} (h : k < 256) : (inr (k : Int)).1 = (inr (k : Int)).2 := by
  unfold inr
  simp only [decide_eq_true_eq]
  constructor <;> omega
theorem cel_ok {k : Nat} {l : List Int} {p : Int} (h : l[k]? = some p) : (cel (vL l) (k : Int) p).1 = (cel (vL l) (k : Int) p).2 := by
  unfold cel vL
  rw [Int.toNat_natCast, Nat.mul_one, Nat.zero_add, List.getElem?_map, h]
  simp [cellIs]
theorem sto_ok {k : Nat} {l : List Int} (h : k < l.length) : (sto (vL l) (k : Int)).1 = (sto (vL l) (k : Int)).2 := by
  unfold sto vL
  rw [Int.toNat_natCast, Nat.mul_one, Nat.zero_add, List.length_map]
  exact decide_eq_true h
theorem vL_set (a : List Int) (p d : Int) (b : List Int) {k : Nat} (hk : a.length = k) : (vL (a ++ p :: b)).set (0 + ((k : Nat) : Int).toNat * 1) (i_ d) = vL ((a ++ [d]) ++ b) := by
  rw [Int.toNat_natCast, Nat.mul_one, Nat.zero_add]
  unfold vL
  rw [List.map_append, List.set_append_right _ _ (by simp [hk])]
  simp [hk]
theorem mid_get (a : List Int) (p : Int) (b : List Int) {k : Nat} (hk : a.length = k) : (a ++ p :: b)[k]? = some p := by
  rw [List.getElem?_append_right (by omega)]
  simp [hk]
theorem range_of {l : List Int} {n : Nat} (h : l.length = n) : ∃ f, l = (List.range n).map f := by
  refine ⟨fun i => l.getD i 0, ?_⟩
  refine List.ext_getElem (by simp [h]) fun i h1 h2 => ?_
  simp [h1]

def aPre (F : Func) : List Code := [cFst (cBody F), cFst (cSnd (cBody F)), cFst (cSnd (cSnd (cBody F)))]
def aR (F : Func) : Code := cFst (cFst (cSnd (cSnd (cSnd (cBody F)))))
def aLoop (F : Func) : Code := cIn (cIn (cSnd (cFst (cSnd (cSnd (cSnd (cBody F)))))))
def aEnd (F : Func) : Code := cSnd (cSnd (cSnd (cSnd (cBody F))))
def aHp (l m : List Value) (b0 b1 b2 : List Value × TypeId) : Hp := ⟨5, [(m, 55), (l, 55), b2, b1, b0]⟩
def aFr (v0 v1 v5 : Value) (c i : Int) : List Value := [v0, v1, p_ 0, p_ 1, p_ 2, v5, p_ 3, p_ 4, i_ c, i_ i]
def aLog (x y : W4) : Log := [okW y, okW x, okW y, okW y, okW x, okW y, okW x, okW y, okW y, okW x, okW y, okW y, okW y, okW y, okW y, okW x]
theorem aLog_ok {x y : W4} (hx : x.ok) (hy : y.ok) : okLog (aLog x y) := fun p hp => by
  have h1 : (okW x).1 = (okW x).2 := decide_eq_true hx
  have h2 : (okW y).1 = (okW y).2 := decide_eq_true hy
  simp only [aLog, List.mem_cons, List.not_mem_nil, or_false] at hp
  rcases hp with rfl | rfl | rfl | rfl | rfl | rfl | rfl | rfl | rfl | rfl | rfl | rfl | rfl | rfl | rfl | rfl <;> first | exact h1 | exact h2

/-! ### Add -/
theorem radd_body : Tryd.f8.body = some (seqs (aPre Tryd.f8) (.seq (.seq (aR Tryd.f8) (.block 0 (.loop (aLoop Tryd.f8)))) (aEnd Tryd.f8))) := by kernel_rfl
theorem radd_round (v0 v1 v5 : Value) (c i p q : Int) (l m : List Value) (b0 b1 b2 : List Value × TypeId) (g : Nat → Value) :
    GoesT (evC (tabOf Tryd.prog extY conB true) 200 false (aLoop Tryd.f8) (aFr v0 v1 v5 c i ++ tl 28 g, aHp l m b0 b1 b2, [tst true, at_, val (i_ p), at_, val (i_ q), at_, at_]) ⟨[], [], []⟩) 10 28 none
      (aFr v0 v1 v5 (carA p q c) (IntKind.i64.wrap (i + 1))) (aHp (l.set (0 + i.toNat * 1) (i_ (digA p q c))) m b0 b1 b2)
      [sto l i, inr i, cel m i q, inr i, cel l i p, inr i, (decide (i < 256), true)] := ⟨by kernel_rfl, by kernel_rfl, by kernel_rfl⟩
theorem radd_out (v0 v1 v5 : Value) (c i : Int) (l m : List Value) (b0 b1 b2 : List Value × TypeId) (g : Nat → Value) :
    GoesT (evC (tabOf Tryd.prog extY conB true) 200 false (aLoop Tryd.f8) (aFr v0 v1 v5 c i ++ tl 28 g, aHp l m b0 b1 b2, [tst false]) ⟨[], [], []⟩) 10 28 (some (some 0))
      (aFr v0 v1 v5 c i) (aHp l m b0 b1 b2) [(decide (i < 256), false)] := ⟨by kernel_rfl, by kernel_rfl, by kernel_rfl⟩
theorem radd_r (v0 v1 v5 j : Value) (c : Int) (h : Hp) (g : Nat → Value) :
    GoesT (evC (tabOf Tryd.prog extY conB true) 200 false (aR Tryd.f8) ([v0, v1, p_ 0, p_ 1, p_ 2, v5, p_ 3, p_ 4, i_ c, j] ++ tl 28 g, h, []) ⟨[], [], []⟩) 10 28 none
      (aFr v0 v1 v5 c 0) h [] := ⟨by kernel_rfl, by kernel_rfl, by kernel_rfl⟩
set_option maxRecDepth 100000 in
theorem radd_pre (x y : W4) : GoesT (evL (tabOf Tryd.prog extY conB true) 2000 (aPre Tryd.f8) ([vW x, vW y] ++ List.replicate 36 undef, ⟨0, []⟩, []) ⟨[], [], []⟩) 10 28 none
      [vW x, vW y, p_ 0, p_ 1, p_ 2, .bool false, p_ 3, p_ 4, i_ 0, undef] (aHp (bitsN x) (bitsN y) (xW x) (xW y) W0) (aLog x y) := ⟨by kernel_rfl, by kernel_rfl, by kernel_rfl⟩
set_option maxRecDepth 100000 in
theorem radd_end (v0 v1 v5 : Value) (c i : Int) (f f2 : Nat → Int) (x y : W4) (g : Nat → Value) :
    GoesE (evC (tabOf Tryd.prog extY conB true) 5000 false (aEnd Tryd.f8) (aFr v0 v1 v5 c i ++ tl 28 g, aHp (vL ((List.range 256).map f)) (vL ((List.range 256).map f2)) (xW x) (xW y) W0, []) ⟨[], [], []⟩) 10 28 (some none)
      (aFr v0 v1 (.bool (c == 1)) c i) (aHp (vL ((List.range 256).map f)) (vL ((List.range 256).map f2)) (xW x) (xW y) (xW (w4L ((List.range 256).map f)))) [] := by unfold GoesE; kernel_rfl

end Go.Proofs.YtdahpclbjeeeiaaDoor
