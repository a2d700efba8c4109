/-
  The document's own moves (tillerref01.Shl, tillerref01.Shr), as calls, II: the rounds together, and the calls.
-/
import Derived.Test.YtdahpclbjeeeiaaConR7
import Derived.Test.YtdahpclbjeeeiaaNum4
namespace Go.Proofs.Ytdahpclbjeeeiaa
open Go.KRun Go.Wd
set_option maxRecDepth 100000

theorem Z47_eq : Z47 = vL (List.replicate 256 0) := rfl
theorem lt256 {k : Nat} (h : k < 256) : (decide ((k : Int) < 256), true).1 = (decide ((k : Int) < 256), true).2 := decide_eq_true (by omega : (k : Int) < 256)
theorem nlt256 {k : Nat} (h : k = 256) : (decide ((k : Int) < 256), false).1 = (decide ((k : Int) < 256), false).2 := decide_eq_false (by omega : ¬ (k : Int) < 256)
theorem take_next {X : List Int} {k : Nat} {p : Int} (h : X[k]? = some p) : X.take (k + 1) = X.take k ++ [p] := by rw [List.take_add_one, h]; rfl
theorem rshl_loop (X : List Int) (hX : X.length = 256) (j : Nat) (hj : j ≤ 255) (v0 v3 : Value) (b0 b1 : List Value × TypeId) (g : Nat → Value) (s : List Dec) :
    Runs (tabOf Try.prog extY conB true) (.block 0 (.loop (mLoop Try.f19))) (hFr v0 (j : Nat) (j : Nat) v3 ++ tl 22 g, mHp (vL X) (vL (List.replicate 256 0)) b0 b1, s) fun e y => match e with
      | none => (∃ i g, y.1 = hFr v0 (j : Nat) i v3 ++ tl 22 g) ∧ y.2.1 = mHp (vL X) (vL (List.replicate j 0 ++ X.take (256 - j))) b0 b1
      | some none => False
      | some (some _) => False := by
  refine Runs.forLoop (n := 256 - j) (R := fun _ => False) (P := fun y => (∃ i g, y.1 = hFr v0 (j : Nat) i v3 ++ tl 22 g) ∧ y.2.1 = mHp (vL X) (vL (List.replicate j 0 ++ X.take (256 - j))) b0 b1)
    (fun r y => ∃ (k : Nat) (g : Nat → Value), k + r = 256 ∧ j ≤ k ∧ y.1 = hFr v0 (j : Nat) (k : Nat) v3 ++ tl 22 g ∧ y.2.1 = mHp (vL X) (vL ((List.replicate j 0 ++ X.take (k - j)) ++ List.replicate r 0)) b0 b1) ?_
    ⟨j, g, by omega, Nat.le_refl _, rfl, by rw [Nat.sub_self, List.take_zero, List.append_nil, List.replicate_append_replicate, show j + (256 - j) = 256 from by omega]⟩
  rintro r ⟨t, h', s'⟩ ⟨k, g, e0, e1, ht, hh⟩
  simp only at ht hh
  subst ht hh
  cases r with
  | zero =>
    refine (goesT_runs (tabY_ok conB_ok) (rshl_out v0 v3 (j : Nat) (k : Nat) _ _ b0 b1 g).t (okL1 (nlt256 (by omega)))).mono fun e y he => ?_
    obtain ⟨rfl, ⟨g', h2⟩, h3⟩ := he
    have ek : k = 256 := by omega
    subst ek
    refine ⟨rfl, ⟨_, g', h2⟩, by rw [h3]; simp⟩
  | succ r =>
    have hk : k < 256 := by omega
    have hp : ∃ p, X[k - j]? = some p := ⟨X[k - j]'(by omega), List.getElem?_eq_getElem (by omega)⟩
    obtain ⟨p, hp⟩ := hp
    have em : IntKind.i64.wrap ((k : Int) + 1) = ((k + 1 : Nat) : Int) := by rw [wrap_i64' (by omega) (by omega)]; omega
    have es : IntKind.i64.wrap ((k : Int) - (j : Int)) = ((k - j : Nat) : Int) := by rw [wrap_i64' (by omega) (by omega)]; omega
    have ld : (List.replicate j (0 : Int) ++ X.take (k - j)).length = k := by rw [List.length_append, List.length_replicate, List.length_take]; omega
    refine (goesT_runs (tabY_ok conB_ok) (rshl_round v0 v3 (j : Nat) (k : Nat) p _ _ b0 b1 g).t (by rw [es]; exact okCons (sto_ok (by rw [List.length_append, ld, List.length_replicate]; omega)) (okCons (inr_ok hk) (okCons (cel_ok hp) (okCons (inr_ok (by omega)) (okL1 (lt256 hk))))))).mono fun e y he => ?_
    obtain ⟨rfl, ⟨g', h2⟩, h3⟩ := he
    refine ⟨r, by omega, k + 1, g', by omega, by omega, by rw [h2, em], ?_⟩
    rw [h3, List.replicate_succ, vL_set _ 0 p _ ld, show k + 1 - j = (k - j) + 1 from by omega, take_next hp, List.append_assoc (List.replicate j 0)]
theorem rshl_calls (x : W4) (n : Int) (hx : x.ok) (_h0 : -9223372036854775808 ≤ n) (_h9 : n ≤ 9223372036854775807) (w : World) : Calls Try.prog 19 #[vW x, .int .i64 n] w fun e w' => e = .returned (shlV4 x n) ∧ Tidy w w' := by
  unfold shlV4 shlW
  by_cases h1 : n < 1
  · rw [if_pos h1]
    exact fits_calls (tabY_ok conB_ok) (rshl_low x n) (okL1 (decide_eq_true h1)) (by rfl) (by rfl) w
  · rw [if_neg h1]
    by_cases h2 : 256 ≤ n
    · rw [if_pos h2]
      exact fits_calls (tabY_ok conB_ok) (rshl_high x n) (okCons (decide_eq_true (by omega : n > 255)) (okL1 (decide_eq_false h1))) (by rfl) (by rfl) w
    · rw [if_neg h2]
      obtain ⟨j, rfl⟩ := Int.eq_ofNat_of_zero_le (by omega : 0 ≤ n)
      have hj : j ≤ 255 := by omega
      rw [Int.toNat_natCast]
      refine calls_of_runs (T := (tabOf Try.prog extY conB true)) Try.func19 rshl_body (vals := [vW x, .int .i64 (j : Int)]) (by rfl) (by rfl) (goesT_list (tabY_ok conB_ok) (rshl_pre x (j : Int)).t (okCons (decide_eq_true hx) (okCons (decide_eq_false (by omega : ¬ (j : Int) > 255)) (okL1 (decide_eq_false h1)))) fun g => ?_) w
      rw [bitsN_vL, Z47_eq]
      have lx := bitL_len 256 x.val
      rw [← up_bits (v := x.val) (j := j) (by omega)]
      generalize bitL 256 x.val = X at *
      refine Runs.seq (P1 := fun e y => e = none ∧ (∃ i g, y.1 = hFr (vW x) (j : Nat) i undef ++ tl 22 g) ∧ y.2.1 = mHp (vL X) (vL (List.replicate j 0 ++ X.take (256 - j))) (xW x) W0) ?_ ?_ (fun e y he => by cases he.1)
      · refine Runs.seq (goesT_runs (tabY_ok conB_ok) (rshl_r (vW x) undef undef (j : Int) _ g).t okNil) ?_ (fun e y he => by cases he.1)
        rintro ⟨t, h', s⟩ ⟨_, ⟨g', ht⟩, hh⟩
        simp only at ht hh
        subst ht hh
        refine (rshl_loop X lx j hj (vW x) undef (xW x) W0 g' s).mono fun e y he => ?_
        match e, he with
        | none, he => exact ⟨rfl, he⟩
      · rintro ⟨t, h', s⟩ ⟨_, ⟨i, g', ht⟩, hh⟩
        simp only at ht hh
        subst ht hh
        have ld : (List.replicate j (0 : Int) ++ X.take (256 - j)).length = 256 := by rw [List.length_append, List.length_replicate, List.length_take]; omega
        generalize List.replicate j (0 : Int) ++ X.take (256 - j) = D at *
        obtain ⟨f, rfl⟩ := range_of ld
        obtain ⟨f2, rfl⟩ := range_of lx
        refine (goesT_runs (tabY_ok conB_ok) (rshl_end (vW x) undef (j : Int) i f f2 x g').t okNil).mono fun e y' he => ?_
        obtain ⟨rfl, ⟨g2, h2⟩, h3⟩ := he
        refine ⟨.inr rfl, ?_⟩
        rw [h2, h3]
        rfl
theorem rshr_loop (X : List Int) (hX : X.length = 256) (j : Nat) (hj1 : 1 ≤ j) (hj9 : (j : Int) ≤ 9223372036854775807) (v0 v3 v5 : Value) (b0 b1 : List Value × TypeId) (g : Nat → Value) (s : List Dec) :
    Runs (tabOf Try.prog extY conB true) (.block 0 (.loop (mLoop Try.f17))) (rFr v0 (j : Nat) 0 v3 v5 false ++ tl 29 g, mHp (vL X) (vL (List.replicate 256 0)) b0 b1, s) fun e y => match e with
      | none => (∃ i g, y.1 = rFr v0 (j : Nat) i v3 v5 (any1 (X.take j)) ++ tl 29 g) ∧ y.2.1 = mHp (vL X) (vL (X.drop j ++ List.replicate (256 - (X.drop j).length) 0)) b0 b1
      | some none => False
      | some (some _) => False := by
  refine Runs.forLoop (n := 256) (R := fun _ => False) (P := fun y => (∃ i g, y.1 = rFr v0 (j : Nat) i v3 v5 (any1 (X.take j)) ++ tl 29 g) ∧ y.2.1 = mHp (vL X) (vL (X.drop j ++ List.replicate (256 - (X.drop j).length) 0)) b0 b1)
    (fun r y => ∃ (k : Nat) (g : Nat → Value), k + r = 256 ∧ y.1 = rFr v0 (j : Nat) (k : Nat) v3 v5 (any1 (X.take (min k j))) ++ tl 29 g ∧ y.2.1 = mHp (vL X) (vL ((X.take k).drop j ++ List.replicate (256 - ((X.take k).drop j).length) 0)) b0 b1) ?_
    ⟨0, g, by omega, by simp [any1], by simp⟩
  rintro r ⟨t, h', s'⟩ ⟨k, g, e0, ht, hh⟩
  simp only at ht hh
  subst ht hh
  cases r with
  | zero =>
    refine (goesT_runs (tabY_ok conB_ok) (rshr_out v0 v3 v5 (j : Nat) (k : Nat) _ _ _ b0 b1 g).t (okL1 (nlt256 (by omega)))).mono fun e y he => ?_
    obtain ⟨rfl, ⟨g', h2⟩, h3⟩ := he
    have ek : k = 256 := by omega
    subst ek
    have et : X.take 256 = X := List.take_of_length_le (by omega)
    have em : X.take (min 256 j) = X.take j := by
      by_cases h : j ≤ 256
      · rw [Nat.min_eq_right h]
      · rw [Nat.min_eq_left (by omega), et, List.take_of_length_le (by omega)]
    rw [em] at h2
    rw [et] at h3
    exact ⟨rfl, ⟨_, g', h2⟩, h3⟩
  | succ r =>
    have hk : k < 256 := by omega
    have hp : ∃ p, X[k]? = some p := ⟨X[k]'(by omega), List.getElem?_eq_getElem (by omega)⟩
    obtain ⟨p, hp⟩ := hp
    have em : IntKind.i64.wrap ((k : Int) + 1) = ((k + 1 : Nat) : Int) := by rw [wrap_i64' (by omega) (by omega)]; omega
    have tn := take_next hp
    have tlen : (X.take k).length = k := by rw [List.length_take]; omega
    by_cases hkj : k < j
    · have m1 : min k j = k := Nat.min_eq_left (by omega)
      have m2 : min (k + 1) j = k + 1 := Nat.min_eq_left (by omega)
      have d1 : (X.take k).drop j = [] := List.drop_eq_nil_of_le (by omega)
      have d2 : (X.take (k + 1)).drop j = [] := List.drop_eq_nil_of_le (by rw [List.length_take]; omega)
      have i1 : (decide ((k : Int) < (j : Int)), true).1 = (decide ((k : Int) < (j : Int)), true).2 := decide_eq_true (by omega : (k : Int) < (j : Int))
      rw [m1, d1]
      cases hl : any1 (X.take k) with
      | true =>
        refine (goesT_runs (tabY_ok conB_ok) (rshr_keep v0 v3 v5 (j : Nat) (k : Nat) _ _ b0 b1 g) (okCons i1 (okL1 (lt256 hk)))).mono fun e y he => ?_
        obtain ⟨rfl, ⟨g', h2⟩, h3⟩ := he
        refine ⟨r, by omega, k + 1, g', by omega, ?_, ?_⟩
        · rw [h2, em, m2, tn, any1_snoc, hl]; rfl
        · rw [h3, d2]
      | false =>
        refine (goesT_runs (tabY_ok conB_ok) (rshr_lose v0 v3 v5 (j : Nat) (k : Nat) p _ _ b0 b1 g) (okCons (cel_ok hp) (okCons (inr_ok hk) (okCons i1 (okL1 (lt256 hk)))))).mono fun e y he => ?_
        obtain ⟨rfl, ⟨g', h2⟩, h3⟩ := he
        refine ⟨r, by omega, k + 1, g', by omega, ?_, ?_⟩
        · rw [h2, em, m2, tn, any1_snoc, hl]; rfl
        · rw [h3, d2]
    · have m1 : min k j = j := Nat.min_eq_right (by omega)
      have m2 : min (k + 1) j = j := Nat.min_eq_right (by omega)
      have i1 : (decide ((k : Int) < (j : Int)), false).1 = (decide ((k : Int) < (j : Int)), false).2 := decide_eq_false (by omega : ¬ (k : Int) < (j : Int))
      have es : IntKind.i64.wrap ((k : Int) - (j : Int)) = ((k - j : Nat) : Int) := by rw [wrap_i64' (by omega) (by omega)]; omega
      have ld : ((X.take k).drop j).length = k - j := by rw [List.length_drop, tlen]
      have d2 : (X.take (k + 1)).drop j = (X.take k).drop j ++ [p] := by rw [tn, List.drop_append_of_le_length (by omega)]
      rw [m1]
      refine (goesT_runs (tabY_ok conB_ok) (rshr_round v0 v3 v5 (j : Nat) (k : Nat) p _ _ _ b0 b1 g).t (by rw [es]; exact okCons (sto_ok (by rw [List.length_append, ld, List.length_replicate]; omega)) (okCons (inr_ok (by omega)) (okCons (cel_ok hp) (okCons (inr_ok hk) (okCons i1 (okL1 (lt256 hk)))))))).mono fun e y he => ?_
      obtain ⟨rfl, ⟨g', h2⟩, h3⟩ := he
      refine ⟨r, by omega, k + 1, g', by omega, ?_, ?_⟩
      · rw [h2, em, m2]
      · rw [h3, d2, List.length_append, ld, es, show 256 - (k - j) = (256 - (k - j + [p].length)) + 1 from by simp only [List.length_singleton]; omega, List.replicate_succ, vL_set _ 0 p _ ld]
theorem rshr_calls (x : W4) (n : Int) (hx : x.ok) (_h0 : -9223372036854775808 ≤ n) (h9 : n ≤ 9223372036854775807) (w : World) : Calls Try.prog 17 #[vW x, .int .i64 n] w fun e w' => e = .returned (shrV4 x n) ∧ Tidy w w' := by
  have bx := W4.val_bd hx
  rw [← p256] at bx
  unfold shrV4
  by_cases h1 : n < 1
  · unfold shrW shrL
    rw [if_pos h1, if_pos h1]
    exact fits_calls (tabY_ok conB_ok) (rshr_low x n) (okL1 (decide_eq_true h1)) (by rfl) (by rfl) w
  · obtain ⟨j, rfl⟩ := Int.eq_ofNat_of_zero_le (by omega : 0 ≤ n)
    have lx := bitL_len 256 x.val
    have key : shrW x (j : Int) = w4L ((bitL 256 x.val).drop j ++ List.replicate (256 - ((bitL 256 x.val).drop j).length) 0) ∧ shrL x (j : Int) = any1 ((bitL 256 x.val).take j) := by
      unfold shrW shrL
      rw [if_neg h1, if_neg h1, Int.toNat_natCast]
      by_cases h2 : 256 ≤ (j : Int)
      · rw [if_pos h2, if_pos h2, List.drop_eq_nil_of_le (by omega), List.take_of_length_le (by omega), any1_eq _ (bitL_01 _ _), valB_bits, Int.emod_eq_of_lt bx.1 bx.2]
        exact ⟨rfl, rfl⟩
      · have hj : j ≤ 256 := by omega
        have e : 256 - ((bitL 256 x.val).drop j).length = j := by rw [List.length_drop, lx]; omega
        rw [if_neg h2, if_neg h2, e, down_bits bx.1 bx.2 hj, any1_eq _ (bits01_take (bitL_01 _ _) j), (bits_parts bx.1 bx.2 hj).1]
        exact ⟨rfl, rfl⟩
    rw [key.1, key.2]
    refine calls_of_runs (T := (tabOf Try.prog extY conB true)) Try.func17 rshr_body (vals := [vW x, .int .i64 (j : Int)]) (by rfl) (by rfl) (goesT_list (tabY_ok conB_ok) (rshr_pre x (j : Int)).t (okCons (decide_eq_true hx) (okL1 (decide_eq_false h1))) fun g => ?_) w
    rw [bitsN_vL, Z47_eq]
    generalize bitL 256 x.val = X at *
    refine Runs.seq (P1 := fun e y => e = none ∧ (∃ i g, y.1 = rFr (vW x) (j : Nat) i undef (.bool false) (any1 (X.take j)) ++ tl 29 g) ∧ y.2.1 = mHp (vL X) (vL (X.drop j ++ List.replicate (256 - (X.drop j).length) 0)) (xW x) W0) ?_ ?_ (fun e y he => by cases he.1)
    · refine Runs.seq (goesT_runs (tabY_ok conB_ok) (rshr_r (vW x) undef (.bool false) undef (j : Int) false _ g).t okNil) ?_ (fun e y he => by cases he.1)
      rintro ⟨t, h', s⟩ ⟨_, ⟨g', ht⟩, hh⟩
      simp only at ht hh
      subst ht hh
      refine (rshr_loop X lx j (by omega) h9 (vW x) undef (.bool false) (xW x) W0 g' s).mono fun e y he => ?_
      match e, he with
      | none, he => exact ⟨rfl, he⟩
    · rintro ⟨t, h', s⟩ ⟨_, ⟨i, g', ht⟩, hh⟩
      simp only at ht hh
      subst ht hh
      have ld : (X.drop j ++ List.replicate (256 - (X.drop j).length) 0).length = 256 := by rw [List.length_append, List.length_replicate, List.length_drop]; omega
      generalize X.drop j ++ List.replicate (256 - (X.drop j).length) 0 = D at *
      generalize any1 (X.take j) = lost at *
      obtain ⟨f, rfl⟩ := range_of ld
      obtain ⟨f2, rfl⟩ := range_of lx
      refine (goesT_runs (tabY_ok conB_ok) (rshr_end (vW x) undef (.bool false) (j : Int) i lost f f2 x g').t okNil).mono fun e y' he => ?_
      obtain ⟨rfl, ⟨g2, h2⟩, h3⟩ := he
      refine ⟨.inr rfl, ?_⟩
      rw [h2, h3]
      rfl
end Go.Proofs.Ytdahpclbjeeeiaa
