/-
  The document's own sums and differences (tillerref01.Add, tillerref01.Sub), as calls, II: the rounds together, and the calls.
-/
import Derived.Test.YtdahpclbjeeeiaaDoorConR4
namespace Go.Proofs.YtdahpclbjeeeiaaDoor
open Go.KRun Go.Wd
set_option maxRecDepth 100000

theorem radd_loop (X Y : List Int) (hX : X.length = 256) (hY : Y.length = 256) (v0 v1 v5 : Value) (b0 b1 b2 : List Value × TypeId) (g : Nat → Value) (s : List Dec) :
    Runs (tabOf Tryd.prog extY conB true) (.block 0 (.loop (aLoop Tryd.f8))) (aFr v0 v1 v5 0 0 ++ tl 28 g, aHp (vL X) (vL Y) b0 b1 b2, s) fun e y => match e with
      | none => (∃ i g, y.1 = aFr v0 v1 v5 (goE carA X Y 0) i ++ tl 28 g) ∧ y.2.1 = aHp (vL (goD digA carA X Y 0)) (vL Y) b0 b1 b2
      | some none => False
      | some (some _) => False := by
  refine Runs.forLoop (n := 256) (R := fun _ => False) (P := fun y => (∃ i g, y.1 = aFr v0 v1 v5 (goE carA X Y 0) i ++ tl 28 g) ∧ y.2.1 = aHp (vL (goD digA carA X Y 0)) (vL Y) b0 b1 b2)
    (fun r y => ∃ (k : Nat) (g : Nat → Value) (dx px dy py : List Int) (c : Int), k + r = 256 ∧ dx.length = k ∧ dy.length = k ∧ px.length = r ∧ py.length = r ∧ dy ++ py = Y ∧ dx ++ goD digA carA px py c = goD digA carA X Y 0 ∧ goE carA px py c = goE carA X Y 0 ∧
      y.1 = aFr v0 v1 v5 c (k : Nat) ++ tl 28 g ∧ y.2.1 = aHp (vL (dx ++ px)) (vL Y) b0 b1 b2) ?_
    ⟨0, g, [], X, [], Y, 0, rfl, rfl, rfl, hX, hY, rfl, rfl, rfl, rfl, rfl⟩
  rintro r ⟨t, h', s'⟩ ⟨k, g, dx, px, dy, py, c, e0, e1, e2, e3, e4, e5, e6, e7, ht, hh⟩
  simp only at ht hh
  subst ht hh
  match r, px, py, e3, e4 with
  | 0, [], [], _, _ =>
    refine (goesT_runs (tabY_ok conB_ok) (radd_out v0 v1 v5 c (k : Nat) _ _ b0 b1 b2 g) (okL1 (decide_eq_false (by omega)))).mono fun e y he => ?_
    obtain ⟨rfl, ⟨g', h2⟩, h3⟩ := he
    simp only [goD, List.append_nil] at e6
    simp only [goE] at e7
    refine ⟨rfl, ⟨_, g', by rw [h2, e7]⟩, by rw [h3, List.append_nil, e6]⟩
  | r + 1, p :: px, q :: py, e3, e4 =>
    simp only [List.length_cons, Nat.add_right_cancel_iff] at e3 e4
    have hk : k < 256 := by omega
    have em : IntKind.i64.wrap ((k : Int) + 1) = ((k + 1 : Nat) : Int) := by rw [wrap_i64' (by omega) (by omega)]; omega
    refine (goesT_runs (tabY_ok conB_ok) (radd_round v0 v1 v5 c (k : Nat) p q (vL (dx ++ p :: px)) (vL Y) b0 b1 b2 g) (okCons (sto_ok (by simp; omega)) (okCons (inr_ok hk) (okCons (cel_ok (by rw [← e5]; exact mid_get dy q py e2)) (okCons (inr_ok hk) (okCons (cel_ok (mid_get dx p px e1)) (okCons (inr_ok hk) (okL1 (decide_eq_true (by omega)))))))))).mono fun e y he => ?_
    obtain ⟨rfl, ⟨g', h2⟩, h3⟩ := he
    simp only [goD] at e6
    simp only [goE] at e7
    refine ⟨r, by omega, k + 1, g', dx ++ [digA p q c], px, dy ++ [q], py, carA p q c, by omega, by simp [e1], by simp [e2], e3, e4, by rw [← e5]; simp, by rw [← e6]; simp, e7, by rw [h2, em], ?_⟩
    rw [h3, vL_set dx p _ px e1]
set_option maxRecDepth 100000 in
theorem radd_calls (x y : W4) (hx : x.ok) (hy : y.ok) (w : World) : Calls Tryd.prog 8 #[vW x, vW y] w fun e w' => e = .returned (addV4 x y) ∧ Tidy w w' := by
  refine calls_of_runs (T := (tabOf Tryd.prog extY conB true)) Tryd.func8 radd_body (vals := [vW x, vW y]) (by rfl) (by rfl) (goesT_list (tabY_ok conB_ok) (radd_pre x y) (aLog_ok hx hy) fun g => ?_) w
  rw [bitsN_vL, bitsN_vL]
  have lx := bitL_len 256 x.val
  have ly := bitL_len 256 y.val
  obtain ⟨q1, q2⟩ := sum_bits hx hy
  obtain ⟨_, ld, _⟩ := goD_spec stepA (bitL 256 x.val) (bitL 256 y.val) 0 (bitL_01 _ _) (bitL_01 _ _) (by rw [lx, ly]) (.inl rfl)
  rw [lx] at ld
  refine Runs.seq (P1 := fun e y' => e = none ∧ (∃ i g, y'.1 = aFr (vW x) (vW y) (.bool false) (goE carA (bitL 256 x.val) (bitL 256 y.val) 0) i ++ tl 28 g) ∧ y'.2.1 = aHp (vL (goD digA carA (bitL 256 x.val) (bitL 256 y.val) 0)) (vL (bitL 256 y.val)) (xW x) (xW y) W0) ?_ ?_ (fun e y he => by cases he.1)
  · refine Runs.seq (goesT_runs (tabY_ok conB_ok) (radd_r (vW x) (vW y) (.bool false) undef 0 _ g) okNil) ?_ (fun e y he => by cases he.1)
    rintro ⟨t, h', s⟩ ⟨_, ⟨g', ht⟩, hh⟩
    simp only at ht hh
    subst ht hh
    refine (radd_loop _ _ lx ly (vW x) (vW y) (.bool false) (xW x) (xW y) W0 g' s).mono fun e y he => ?_
    match e, he with
    | none, he => exact ⟨rfl, he⟩
  · rintro ⟨t, h', s⟩ ⟨_, ⟨i, g', ht⟩, hh⟩
    simp only at ht hh
    subst ht hh
    unfold addV4
    rw [← q1, ← q2]
    generalize goD digA carA (bitL 256 x.val) (bitL 256 y.val) 0 = D at *
    generalize goE carA (bitL 256 x.val) (bitL 256 y.val) 0 = E at *
    generalize bitL 256 y.val = Y at *
    obtain ⟨f, rfl⟩ := range_of ld
    obtain ⟨f2, rfl⟩ := range_of ly
    refine (goesT_runs (tabY_ok conB_ok) (radd_end (vW x) (vW y) (.bool false) E i f f2 x y g').t okNil).mono fun e y' he => ?_
    obtain ⟨rfl, ⟨g2, h2⟩, h3⟩ := he
    refine ⟨.inr rfl, ?_⟩
    rw [h2, h3]
    rfl
end Go.Proofs.YtdahpclbjeeeiaaDoor
