/-
  The document's own order (tillerref01.Cmp), as a call: what it answers of any two numbers, in every world: a loop down the bits.
-/
import Derived.Test.YtdahpclbjeeeiaaDoorConR2
import Derived.Test.YtdahpclbjeeeiaaDoorNum3
import Derived.Test.YtdahpclbjeeeiaaDoorRunT
namespace Go.Proofs.YtdahpclbjeeeiaaDoor
open Go.KRun Go.Wd
set_option maxRecDepth 100000

def conC : Con := alt 19 (g1n (plain1n rbitV4)) conN
theorem conC_ok : ConOk conC := alt_ok Tryd.func19 rfl (plain1n_ok rbit_calls) conN_ok
def q_ (n : Nat) : Value := .pointer (some ⟨n, 0, none⟩)
def yW (x : W4) : List Value × TypeId := ([.int .u64 x.a, .int .u64 x.b, .int .u64 x.c, .int .u64 x.d], 31)
def kPre (F : Func) : List Code := [cFst (cBody F)]
def kR (F : Func) : Code := cFst (cFst (cSnd (cBody F)))
def kLoop (F : Func) : Code := cIn (cIn (cSnd (cFst (cSnd (cBody F)))))
def kEnd (F : Func) : Code := cSnd (cSnd (cBody F))
theorem rcmp_body : Tryd.f9.body = some (seqs (kPre Tryd.f9) (.seq (.seq (kR Tryd.f9) (.block 0 (.loop (kLoop Tryd.f9)))) (kEnd Tryd.f9))) := by kernel_rfl
def kFr (x y : W4) (c i : Int) : List Value := [vW x, vW y, q_ 0, q_ 1, .int .i64 c, .int .i64 i]
def kHp (x y : W4) : Hp := ⟨2, [yW y, yW x]⟩
def lb2 (x : W4) (i : Int) : Bool × Bool := (decide (x.ok ∧ -9223372036854775808 ≤ i ∧ i ≤ 9223372036854775807), true)
theorem rcmp_same (x y : W4) (i : Int) (g : Nat → Value) :
    GoesT (evC (tabOf Tryd.prog extY conC true) 200 false (kLoop Tryd.f9) (kFr x y 0 i ++ tl 18 g, kHp x y, [tst true, cmp false]) ⟨[], [], []⟩) 6 18 none
      (kFr x y 0 (IntKind.i64.wrap (i - 1))) (kHp x y) [(bitI x i != bitI y i, false), lb2 y i, lb2 x i, (decide (i ≥ 0), true)] := ⟨by kernel_rfl, by kernel_rfl, by kernel_rfl⟩
theorem rcmp_diff (x y : W4) (i : Int) (g : Nat → Value) :
    GoesT (evC (tabOf Tryd.prog extY conC true) 200 false (kLoop Tryd.f9) (kFr x y 0 i ++ tl 18 g, kHp x y, [tst true, cmp true]) ⟨[], [], []⟩) 6 18 (some none)
      (kFr x y (IntKind.i64.wrap (bitI x i - bitI y i)) i) (kHp x y) [lb2 y i, lb2 x i, (bitI x i != bitI y i, true), lb2 y i, lb2 x i, (decide (i ≥ 0), true)] := ⟨by kernel_rfl, by kernel_rfl, by kernel_rfl⟩
theorem rcmp_out (x y : W4) (i : Int) (g : Nat → Value) :
    GoesT (evC (tabOf Tryd.prog extY conC true) 200 false (kLoop Tryd.f9) (kFr x y 0 i ++ tl 18 g, kHp x y, [tst false]) ⟨[], [], []⟩) 6 18 (some (some 0))
      (kFr x y 0 i) (kHp x y) [(decide (i ≥ 0), false)] := ⟨by kernel_rfl, by kernel_rfl, by kernel_rfl⟩
theorem rcmp_end (x y : W4) (i : Int) (g : Nat → Value) :
    GoesT (evC (tabOf Tryd.prog extY conC true) 200 false (kEnd Tryd.f9) (kFr x y 0 i ++ tl 18 g, kHp x y, []) ⟨[], [], []⟩) 6 18 (some none)
      (kFr x y 0 i) (kHp x y) [] := ⟨by kernel_rfl, by kernel_rfl, by kernel_rfl⟩
theorem rcmp_r (x y : W4) (j : Value) (g : Nat → Value) :
    GoesT (evC (tabOf Tryd.prog extY conC true) 200 false (kR Tryd.f9) ([vW x, vW y, q_ 0, q_ 1, .int .i64 0, j] ++ tl 18 g, kHp x y, []) ⟨[], [], []⟩) 6 18 none
      (kFr x y 0 255) (kHp x y) [] := ⟨by kernel_rfl, by kernel_rfl, by kernel_rfl⟩
theorem rcmp_pre (x y : W4) : GoesT (evL (tabOf Tryd.prog extY conC true) 200 (kPre Tryd.f9) ([vW x, vW y] ++ List.replicate 22 undef, ⟨0, []⟩, []) ⟨[], [], []⟩) 6 18 none
      [vW x, vW y, q_ 0, q_ 1, .int .i64 0, undef] (kHp x y) [] := ⟨by kernel_rfl, by kernel_rfl, by kernel_rfl⟩
theorem bitI_at (x : W4) {k : Nat} (h : k < 256) : bitI x (k : Int) = x.val / 2 ^ k % 2 := by
  unfold bitI
  rw [if_neg (by omega), if_neg (by omega), Int.toNat_natCast]
theorem lb2_ok {x : W4} (hx : x.ok) {k : Nat} (h : k < 256) : (lb2 x (k : Int)).1 = (lb2 x (k : Int)).2 := decide_eq_true ⟨hx, by omega, by omega⟩
theorem same_up {x y : W4} {k : Nat} (h : x.val / 2 ^ (k + 1) = y.val / 2 ^ (k + 1)) (hb : x.val / 2 ^ k % 2 = y.val / 2 ^ k % 2) : x.val / 2 ^ k = y.val / 2 ^ k := by
  rw [← half_pow, ← half_pow] at h
  omega
theorem diff_up {x y : W4} {k : Nat} (h : x.val / 2 ^ (k + 1) = y.val / 2 ^ (k + 1)) (hb : x.val / 2 ^ k % 2 ≠ y.val / 2 ^ k % 2) : IntKind.i64.wrap (x.val / 2 ^ k % 2 - y.val / 2 ^ k % 2) = cmpI x y := by
  rw [← half_pow, ← half_pow] at h
  have hp : (0 : Int) < 2 ^ k := pow_pos2 k
  have m1 : x.val ≤ y.val → x.val / 2 ^ k ≤ y.val / 2 ^ k := Int.ediv_le_ediv hp
  have m2 : y.val ≤ x.val → y.val / 2 ^ k ≤ x.val / 2 ^ k := Int.ediv_le_ediv hp
  rw [wrap_i64' (by omega) (by omega)]
  unfold cmpI
  split
  · omega
  · split
    · omega
    · omega
theorem rcmp_loop {x y : W4} (hx : x.ok) (hy : y.ok) (g : Nat → Value) (s : List Dec) :
    Runs (tabOf Tryd.prog extY conC true) (.block 0 (.loop (kLoop Tryd.f9))) (kFr x y 0 255 ++ tl 18 g, kHp x y, s) fun e z => match e with
      | none => cmpI x y = 0 ∧ (∃ i g, z.1 = kFr x y 0 i ++ tl 18 g) ∧ z.2.1 = kHp x y
      | some none => (∃ i g, z.1 = kFr x y (cmpI x y) i ++ tl 18 g) ∧ z.2.1 = kHp x y
      | some (some _) => False := by
  have bx := W4.val_bd hx
  have by' := W4.val_bd hy
  refine Runs.forLoop (n := 256) (R := fun z => (∃ i g, z.1 = kFr x y (cmpI x y) i ++ tl 18 g) ∧ z.2.1 = kHp x y) (P := fun z => cmpI x y = 0 ∧ (∃ i g, z.1 = kFr x y 0 i ++ tl 18 g) ∧ z.2.1 = kHp x y)
    (fun r z => r ≤ 256 ∧ x.val / 2 ^ r = y.val / 2 ^ r ∧ (∃ g, z.1 = kFr x y 0 ((r : Int) - 1) ++ tl 18 g) ∧ z.2.1 = kHp x y) ?_
    ⟨Nat.le_refl _, by rw [p256, Int.ediv_eq_zero_of_lt bx.1 bx.2, Int.ediv_eq_zero_of_lt by'.1 by'.2], ⟨g, rfl⟩, rfl⟩
  rintro r ⟨t, h', s'⟩ ⟨hr, hv, ⟨g, ht⟩, hh⟩
  simp only at ht hh
  subst ht hh
  cases r with
  | zero =>
    refine (goesT_runs (tabY_ok conC_ok) (rcmp_out x y _ g) (okL1 (decide_eq_false (by omega)))).mono fun e z he => ?_
    obtain ⟨rfl, ⟨g', h2⟩, h3⟩ := he
    simp only [Int.pow_zero, Int.ediv_one] at hv
    refine ⟨rfl, ?_, ⟨_, g', h2⟩, h3⟩
    unfold cmpI
    rw [if_neg (by omega), if_pos hv]
  | succ k =>
    have hk : k < 256 := by omega
    have e0 : ((k + 1 : Nat) : Int) - 1 = (k : Int) := by omega
    rw [e0]
    have i0 : (decide ((k : Int) ≥ 0), true).1 = (decide ((k : Int) ≥ 0), true).2 := decide_eq_true (by omega : (k : Int) ≥ 0)
    by_cases hb : x.val / 2 ^ k % 2 = y.val / 2 ^ k % 2
    · refine (goesT_runs (tabY_ok conC_ok) (rcmp_same x y _ g) (okCons (by rw [bitI_at x hk, bitI_at y hk, hb]; exact bne_self_eq_false _) (okCons (lb2_ok hy hk) (okCons (lb2_ok hx hk) (okL1 i0))))).mono fun e z he => ?_
      obtain ⟨rfl, ⟨g', h2⟩, h3⟩ := he
      refine ⟨k, by omega, by omega, same_up hv hb, ⟨g', ?_⟩, h3⟩
      rw [h2, wrap_i64' (by omega) (by omega)]
    · refine (goesT_runs (tabY_ok conC_ok) (rcmp_diff x y _ g) (okCons (lb2_ok hy hk) (okCons (lb2_ok hx hk) (okCons (by rw [bitI_at x hk, bitI_at y hk]; exact bne_iff_ne.2 hb) (okCons (lb2_ok hy hk) (okCons (lb2_ok hx hk) (okL1 i0))))))).mono fun e z he => ?_
      obtain ⟨rfl, ⟨g', h2⟩, h3⟩ := he
      refine ⟨⟨(k : Int), g', ?_⟩, h3⟩
      rw [h2, bitI_at x hk, bitI_at y hk, diff_up hv hb]
theorem rcmp_calls (x y : W4) (hx : x.ok) (hy : y.ok) (w : World) : Calls Tryd.prog 9 #[vW x, vW y] w fun e w' => e = .returned (cmpV4 x y) ∧ Tidy w w' := by
  refine calls_of_runs (T := (tabOf Tryd.prog extY conC true)) Tryd.func9 rcmp_body (vals := [vW x, vW y]) (by rfl) (by rfl) (goesT_list (tabY_ok conC_ok) (rcmp_pre x y) okNil fun g => ?_) w
  unfold cmpV4
  refine Runs.seq (P1 := fun e z => match e with
      | none => cmpI x y = 0 ∧ (∃ i g, z.1 = kFr x y 0 i ++ tl 18 g) ∧ z.2.1 = kHp x y
      | some none => (∃ i g, z.1 = kFr x y (cmpI x y) i ++ tl 18 g) ∧ z.2.1 = kHp x y
      | some (some _) => False) ?_ ?_ ?_
  · refine Runs.seq (goesT_runs (tabY_ok conC_ok) (rcmp_r x y undef g) okNil) ?_ (fun e z he => by cases he.1)
    rintro ⟨t, h', s⟩ ⟨_, ⟨g', ht⟩, hh⟩
    simp only at ht hh
    subst ht hh
    exact rcmp_loop hx hy g' s
  · rintro ⟨t, h', s⟩ ⟨hc, ⟨i, g', ht⟩, hh⟩
    simp only at ht hh
    subst ht hh
    refine (goesT_runs (tabY_ok conC_ok) (rcmp_end x y i g') okNil).mono fun e z he => ?_
    obtain ⟨rfl, ⟨g2, h2⟩, h3⟩ := he
    refine ⟨.inr rfl, ?_⟩
    rw [h2, h3, hc]
    rfl
  · rintro (_ | id) ⟨t, h', s⟩ he
    · obtain ⟨⟨i, g', ht⟩, hh⟩ := he
      simp only at ht hh
      subst ht hh
      exact ⟨.inr rfl, rfl⟩
    · exact he.elim
end Go.Proofs.YtdahpclbjeeeiaaDoor
