/-
  The document's own product (tillerref01.Mul), IV: the rounds together, and the call.
-/
import Derived.Test.YtdahpclbjeeeiaaDoorConM3
import Derived.Test.YtdahpclbjeeeiaaDoorCon6
namespace Go.Proofs.YtdahpclbjeeeiaaDoor
open Go.KRun Go.Wd
set_option maxRecDepth 100000

theorem in_ok {n k : Nat} (h : k < n) : (in_ n (k : Int)).1 = (in_ n (k : Int)).2 := by
  unfold in_
  simp only [decide_eq_true_eq]
  constructor <;> omega
theorem ceu_ok {k : Nat} {l : List Int} {p : Int} (h : l[k]? = some p) : (ceu (vU l) (k : Int) p).1 = (ceu (vU l) (k : Int) p).2 := by
  unfold ceu vU
  rw [Int.toNat_natCast, Nat.mul_one, Nat.zero_add, List.getElem?_map, h]
  simp [cellIs]
theorem stu_ok {k : Nat} {l : List Int} (h : k < l.length) : (stu (vU l) (k : Int)).1 = (stu (vU l) (k : Int)).2 := by
  unfold stu vU
  rw [Int.toNat_natCast, Nat.mul_one, Nat.zero_add, List.length_map]
  exact decide_eq_true h
theorem vU_set (a : List Int) (p d : Int) (b : List Int) {k : Nat} (hk : a.length = k) : (vU (a ++ p :: b)).set (0 + ((k : Nat) : Int).toNat * 1) (u6 d) = vU ((a ++ [d]) ++ b) := by
  rw [Int.toNat_natCast, Nat.mul_one, Nat.zero_add]
  unfold vU
  rw [List.map_append, List.set_append_right _ _ (by simp [hk])]
  simp [hk]
theorem mid_at (a : List Int) (p : Int) (b : List Int) {k : Nat} (hk : a.length = k) : (a ++ p :: b)[k]? = some p := by
  rw [List.getElem?_append_right (by omega)]
  simp [hk]
theorem ij_eq {i k : Nat} (h : i + k < 100) : ij (i : Int) (k : Int) = ((i + k : Nat) : Int) := by unfold ij; rw [wrap_i64' (by omega) (by omega)]; omega
theorem ij_one {i : Nat} (h : i < 100) : ij (i : Int) 1 = ((i + 1 : Nat) : Int) := by unfold ij; rw [wrap_i64' (by omega) (by omega)]; omega
theorem k16 {k : Nat} (h : k < 16) : (decide ((k : Int) < 16), true).1 = (decide ((k : Int) < 16), true).2 := decide_eq_true (by omega : (k : Int) < 16)
theorem n16 {k : Nat} (h : k = 16) : (decide ((k : Int) < 16), false).1 = (decide ((k : Int) < 16), false).2 := decide_eq_false (by omega : ¬ (k : Int) < 16)
def upto (l : List Int) (m : Int) : Prop := ∀ d ∈ l, 0 ≤ d ∧ d ≤ m
theorem mz_eq {d p q m : Int} (hp : part p) (hq : part q) (hd : 0 ≤ d ∧ d ≤ m) (hm : m ≤ 68717379600) : mz d p q = d + p * q ∧ 0 ≤ p * q ∧ p * q ≤ 4294836225 := by
  unfold part at hp hq
  have h0 : 0 ≤ p * q := Int.mul_nonneg hp.1 hq.1
  have h1 : p * q ≤ 65535 * 65535 := Int.mul_le_mul hp.2 hq.2 hq.1 (by omega)
  refine ⟨?_, h0, by omega⟩
  unfold mz
  rw [wrap_u64, wrap_u64]
  omega
theorem row_val {i k : Nat} {V p q A : Int} : V + 65536 ^ i * (p * A) + 65536 ^ (i + k) * (p * q) = V + 65536 ^ i * (p * (A + 65536 ^ k * q)) := by
  rw [Int.pow_add, Int.mul_assoc, Int.mul_left_comm (65536 ^ k) p q, Int.mul_add p, Int.mul_add (65536 ^ i)]
  omega
theorem rmul_in (X Y : List Int) (hY : Y.length = 16) (pY : ∀ d ∈ Y, part d) (i : Nat) (hi : i < 16) (p : Int) (hp : X[i]? = some p) (pp : part p) (Z : List Int) (hZ : Z.length = 33) (bZ : upto Z (i * 4294836225)) (v0 v1 v8 v12 v13 v14 : Value) (b0 b1 b2 b3 : List Value × TypeId) (g : Nat → Value) (s : List Dec) :
    Runs (tabOf Tryd.prog extY conN true) (.block 4 (.loop (uIn Tryd.f7))) (uFr v0 v1 v8 (i6 i) (i6 0) v12 v13 v14 ++ tl 94 g, uHp (vU X) (vU Y) (vU Z) b0 b1 b2 b3, s) fun e y => match e with
      | none => ∃ (k : Int) (g : Nat → Value) (z : List Int), y.1 = uFr v0 v1 v8 (i6 i) (i6 k) v12 v13 v14 ++ tl 94 g ∧ y.2.1 = uHp (vU X) (vU Y) (vU z) b0 b1 b2 b3 ∧ z.length = 33 ∧ upto z ((i + 1) * 4294836225) ∧ vR z = vR Z + 65536 ^ i * (p * vR Y)
      | some none => False
      | some (some _) => False := by
  refine Runs.forLoop (n := 16) (R := fun _ => False) (P := fun y => ∃ (k : Int) (g : Nat → Value) (z : List Int), y.1 = uFr v0 v1 v8 (i6 i) (i6 k) v12 v13 v14 ++ tl 94 g ∧ y.2.1 = uHp (vU X) (vU Y) (vU z) b0 b1 b2 b3 ∧ z.length = 33 ∧ upto z ((i + 1) * 4294836225) ∧ vR z = vR Z + 65536 ^ i * (p * vR Y))
    (fun r y => ∃ (k : Nat) (g : Nat → Value) (za zb ya yb : List Int), k + r = 16 ∧ za.length = i + k ∧ za.length + zb.length = 33 ∧ ya.length = k ∧ ya ++ yb = Y ∧ y.1 = uFr v0 v1 v8 (i6 i) (i6 (k : Nat)) v12 v13 v14 ++ tl 94 g ∧ y.2.1 = uHp (vU X) (vU Y) (vU (za ++ zb)) b0 b1 b2 b3 ∧
      upto za ((i + 1) * 4294836225) ∧ upto zb (i * 4294836225) ∧ vR (za ++ zb) = vR Z + 65536 ^ i * (p * vR ya)) ?_
    ⟨0, g, Z.take i, Z.drop i, [], Y, rfl, by rw [List.length_take]; omega, by rw [List.length_take, List.length_drop]; omega, rfl, rfl, rfl, by rw [List.take_append_drop], fun d hd => by
      have := bZ d (List.mem_of_mem_take hd)
      omega, fun d hd => bZ d (List.mem_of_mem_drop hd), by rw [List.take_append_drop]; simp [vR]⟩
  rintro r ⟨t, h', s'⟩ ⟨k, g, za, zb, ya, yb, e0, e1, e2, e3, e4, ht, hh, ba, bb, hv⟩
  simp only at ht hh
  subst ht hh
  cases r with
  | zero =>
    refine (goesT_runs (tabY_ok conN_ok) (rmul_out v0 v1 v8 v12 v13 v14 (i : Nat) (k : Nat) _ g).t (okL1 (n16 (by omega)))).mono fun e y he => ?_
    obtain ⟨rfl, ⟨g', h2⟩, h3⟩ := he
    have ey : ya = Y := by
      have : yb = [] := by
        have := congrArg List.length e4
        rw [List.length_append] at this
        exact List.eq_nil_of_length_eq_zero (by omega)
      rw [← e4, this, List.append_nil]
    refine ⟨rfl, _, g', za ++ zb, h2, h3, by rw [List.length_append]; omega, fun d hd => ?_, by rw [hv, ey]⟩
    rcases List.mem_append.1 hd with hd | hd
    · exact ba d hd
    · have := bb d hd
      omega
  | succ r =>
    have hk : k < 16 := by omega
    match zb, yb, e2, e4, bb with
    | [], _, e2, _, _ => simp only [List.length_nil] at e2; omega
    | _ :: _, [], _, e4, _ =>
      have := congrArg List.length e4
      rw [List.length_append, List.length_nil] at this
      omega
    | d :: zb, q :: yb, e2, e4, bb =>
      have d1 := bb d List.mem_cons_self
      have q1 : part q := pY q (by rw [← e4]; simp)
      obtain ⟨m1, m2, m3⟩ := mz_eq pp q1 d1 (by omega)
      have eij := ij_eq (i := i) (k := k) (by omega)
      refine (goesT_runs (tabY_ok conN_ok) (rmul_round v0 v1 v8 v12 v13 v14 (i : Nat) (k : Nat) p q d (vU X) (vU Y) (vU (za ++ d :: zb)) b0 b1 b2 b3 g) (by
        rw [eij]
        exact okCons (stu_ok (by rw [List.length_append, List.length_cons]; omega)) (okCons (in_ok (by omega)) (okCons (ceu_ok (mid_at za d zb e1)) (okCons (ceu_ok (by rw [← e4]; exact mid_at ya q yb e3)) (okCons (in_ok hk) (okCons (ceu_ok hp) (okCons (in_ok hi) (okCons (in_ok (by omega)) (okL1 (k16 hk)))))))))) ).mono fun e y he => ?_
      obtain ⟨rfl, ⟨g', h2⟩, h3⟩ := he
      refine ⟨r, by omega, k + 1, g', za ++ [mz d p q], zb, ya ++ [q], yb, by omega, by simp; omega, by simp only [List.length_append, List.length_cons, List.length_nil] at e2 ⊢; omega, by simp [e3], by rw [← e4]; simp, by rw [h2, ij_one (by omega)], by rw [h3, eij, vU_set za d _ zb e1], ?_, fun c hc => bb c (List.mem_cons_of_mem _ hc), ?_⟩
      · intro c hc
        rcases List.mem_append.1 hc with hc | hc
        · exact ba c hc
        · rw [List.mem_singleton.1 hc, m1]
          omega
      · have h4 := vR_set za d (mz d p q) zb
        rw [List.append_assoc, List.singleton_append, h4, hv, m1, e1, vR_append, e3, show d + p * q - d = p * q from by omega, row_val]
        simp only [vR]
        rw [Int.mul_zero, Int.add_zero]
theorem rmul_loop (X Y : List Int) (hX : X.length = 16) (hY : Y.length = 16) (pX : ∀ d ∈ X, part d) (pY : ∀ d ∈ Y, part d) (v0 v1 v8 v11 v12 v13 v14 : Value) (b0 b1 b2 b3 : List Value × TypeId) (g : Nat → Value) (s : List Dec) :
    Runs (tabOf Tryd.prog extY conN true) (.block 2 (.loop (.seq (uHead Tryd.f7) (.seq (.block 3 (.seq (uK Tryd.f7) (.block 4 (.loop (uIn Tryd.f7))))) (uTail Tryd.f7))))) (uFr v0 v1 v8 (i6 0) v11 v12 v13 v14 ++ tl 94 g, uHp (vU X) (vU Y) (vU (List.replicate 33 0)) b0 b1 b2 b3, s) fun e y => match e with
      | none => ∃ (v10 v11 : Value) (g : Nat → Value) (z : List Int), y.1 = uFr v0 v1 v8 v10 v11 v12 v13 v14 ++ tl 94 g ∧ y.2.1 = uHp (vU X) (vU Y) (vU z) b0 b1 b2 b3 ∧ z.length = 33 ∧ upto z 68717379600 ∧ vR z = vR X * vR Y
      | some none => False
      | some (some _) => False := by
  refine Runs.forLoop (n := 16) (R := fun _ => False) (P := fun y => ∃ (v10 v11 : Value) (g : Nat → Value) (z : List Int), y.1 = uFr v0 v1 v8 v10 v11 v12 v13 v14 ++ tl 94 g ∧ y.2.1 = uHp (vU X) (vU Y) (vU z) b0 b1 b2 b3 ∧ z.length = 33 ∧ upto z 68717379600 ∧ vR z = vR X * vR Y)
    (fun r y => ∃ (i : Nat) (g : Nat → Value) (v11 : Value) (z : List Int), i + r = 16 ∧ y.1 = uFr v0 v1 v8 (i6 (i : Nat)) v11 v12 v13 v14 ++ tl 94 g ∧ y.2.1 = uHp (vU X) (vU Y) (vU z) b0 b1 b2 b3 ∧ z.length = 33 ∧ upto z (i * 4294836225) ∧ vR z = vR (X.take i) * vR Y) ?_
    ⟨0, g, v11, List.replicate 33 0, rfl, rfl, rfl, rfl, fun d hd => by rw [List.eq_of_mem_replicate hd]; omega, by rw [vR_zeros]; simp [vR]⟩
  rintro r ⟨t, h', s'⟩ ⟨i, g, v11, z, e0, ht, hh, e1, bz, hv⟩
  simp only at ht hh
  subst ht hh
  cases r with
  | zero =>
    have ei : i = 16 := by omega
    subst ei
    refine Runs.seq (P1 := fun e y => e = some (some 2) ∧ (∃ g, y.1 = uFr v0 v1 v8 (i6 (16 : Nat)) v11 v12 v13 v14 ++ tl 94 g) ∧ y.2.1 = uHp (vU X) (vU Y) (vU z) b0 b1 b2 b3) (goesT_runs (tabY_ok conN_ok) (rmul_head false v0 v1 v8 v11 v12 v13 v14 (16 : Nat) _ g).t (okL1 (n16 rfl))) (fun y he => by cases he.1) ?_
    rintro e y ⟨he, ⟨g', h2⟩, h3⟩
    cases he
    refine ⟨rfl, _, _, g', z, h2, h3, e1, bz, ?_⟩
    rw [hv, List.take_of_length_le (by omega)]
  | succ r =>
    have hi : i < 16 := by omega
    have hp : ∃ p, X[i]? = some p := ⟨X[i]'(by omega), List.getElem?_eq_getElem (by omega)⟩
    obtain ⟨p, hp⟩ := hp
    have pp : part p := pX p (List.mem_of_getElem? hp)
    refine Runs.seq (goesT_runs (tabY_ok conN_ok) (rmul_head true v0 v1 v8 v11 v12 v13 v14 (i : Nat) _ g).t (okL1 (k16 hi))) ?_ (fun e y he => by cases he.1)
    rintro ⟨t, h', s⟩ ⟨_, ⟨g1, ht⟩, hh⟩
    simp only at ht hh
    subst ht hh
    refine Runs.seq (P1 := fun e y => e = none ∧ ∃ (k : Int) (g : Nat → Value) (z' : List Int), y.1 = uFr v0 v1 v8 (i6 i) (i6 k) v12 v13 v14 ++ tl 94 g ∧ y.2.1 = uHp (vU X) (vU Y) (vU z') b0 b1 b2 b3 ∧ z'.length = 33 ∧ upto z' ((i + 1) * 4294836225) ∧ vR z' = vR z + 65536 ^ i * (p * vR Y)) ?_ ?_ (fun e y he => by cases he.1)
    · refine Runs.block (P1 := fun e y => e = none ∧ ∃ (k : Int) (g : Nat → Value) (z' : List Int), y.1 = uFr v0 v1 v8 (i6 i) (i6 k) v12 v13 v14 ++ tl 94 g ∧ y.2.1 = uHp (vU X) (vU Y) (vU z') b0 b1 b2 b3 ∧ z'.length = 33 ∧ upto z' ((i + 1) * 4294836225) ∧ vR z' = vR z + 65536 ^ i * (p * vR Y)) ?_
        (fun y he => he) (fun y he => by cases he.1) (fun y he => by cases he.1) (fun id y _ he => by cases he.1)
      refine Runs.seq (goesT_runs (tabY_ok conN_ok) (rmul_k v0 v1 v8 v11 v12 v13 v14 (i : Nat) _ g1).t okNil) ?_ (fun e y he => by cases he.1)
      rintro ⟨t, h', s⟩ ⟨_, ⟨g2, ht⟩, hh⟩
      simp only at ht hh
      subst ht hh
      refine (rmul_in X Y hY pY i hi p hp pp z e1 bz v0 v1 v8 v12 v13 v14 b0 b1 b2 b3 g2 s).mono fun e y he => ?_
      match e, he with
      | none, he => exact ⟨rfl, he⟩
    · rintro ⟨t, h', s⟩ ⟨_, k, g3, z', ht, hh, l1, bz', hv'⟩
      simp only at ht hh
      subst ht hh
      refine (goesT_runs (tabY_ok conN_ok) (rmul_tail v0 v1 v8 (i6 k) v12 v13 v14 (i : Nat) _ g3).t okNil).mono fun e y he => ?_
      obtain ⟨rfl, ⟨g4, h2⟩, h3⟩ := he
      refine ⟨r, by omega, i + 1, g4, i6 k, z', by omega, by rw [h2, ij_one (by omega)], h3, l1, fun d hd => by have := bz' d hd; omega, ?_⟩
      rw [hv', hv, List.take_add_one, hp]
      simp only [Option.toList_some]
      rw [vR_append, List.length_take, Nat.min_eq_left (by omega), Int.add_mul]
      simp only [vR]
      rw [Int.mul_zero, Int.add_zero, Int.mul_assoc]
/-- eight words out of thirty-two parts -/
theorem out_step : ∀ l : List Int, 4 ≤ l.length → (∀ d ∈ l, part d) → word (out4 l) ∧ vR l = out4 l + 18446744073709551616 * vR (l.drop 4)
  | a :: b :: c :: d :: l, _, h => by
    have ha := h a (by simp)
    have hb := h b (by simp)
    have hc := h c (by simp)
    have hd := h d (by simp)
    rw [out4_eq ha hb hc hd]
    unfold part at *
    simp only [vR, List.drop_succ_cons, List.drop_zero]
    unfold word
    omega
theorem out_all {D : List Int} (hl : D.length = 32) (h : ∀ d ∈ D, part d) : (∀ k, k < 8 → word (outW D k)) ∧ vR D = (⟨outW D 0, outW D 1, outW D 2, outW D 3⟩ : W4).val + 115792089237316195423570985008687907853269984665640564039457584007913129639936 * (⟨outW D 4, outW D 5, outW D 6, outW D 7⟩ : W4).val := by
  have st : ∀ k, k < 8 → word (outW D k) ∧ vR (D.drop (4 * k)) = outW D k + 18446744073709551616 * vR (D.drop (4 * (k + 1))) := fun k hk => by
    have := out_step (D.drop (4 * k)) (by rw [List.length_drop]; omega) (fun d hd => h d (List.mem_of_mem_drop hd))
    rw [List.drop_drop, show 4 * k + 4 = 4 * (k + 1) from by omega] at this
    exact this
  refine ⟨fun k hk => (st k hk).1, ?_⟩
  have s0 : vR D = outW D 0 + 18446744073709551616 * vR (D.drop 4) := (st 0 (by omega)).2
  have s1 : vR (D.drop 4) = outW D 1 + 18446744073709551616 * vR (D.drop 8) := (st 1 (by omega)).2
  have s2 : vR (D.drop 8) = outW D 2 + 18446744073709551616 * vR (D.drop 12) := (st 2 (by omega)).2
  have s3 : vR (D.drop 12) = outW D 3 + 18446744073709551616 * vR (D.drop 16) := (st 3 (by omega)).2
  have s4 : vR (D.drop 16) = outW D 4 + 18446744073709551616 * vR (D.drop 20) := (st 4 (by omega)).2
  have s5 : vR (D.drop 20) = outW D 5 + 18446744073709551616 * vR (D.drop 24) := (st 5 (by omega)).2
  have s6 : vR (D.drop 24) = outW D 6 + 18446744073709551616 * vR (D.drop 28) := (st 6 (by omega)).2
  have s7 : vR (D.drop 28) = outW D 7 + 18446744073709551616 * vR (D.drop 32) := (st 7 (by omega)).2
  have e : D.drop 32 = [] := List.drop_eq_nil_of_le (by omega)
  rw [e] at s7
  simp only [vR] at s7
  unfold W4.val
  dsimp only
  omega
theorem mul_word (x y : W4) (hx : x.ok) (hy : y.ok) {f : Nat → Int} (bz : upto ((List.range 33).map f) 68717379600) (hv : vR ((List.range 33).map f) = x.val * y.val) :
    (.tuple #[vW ⟨outW (dg f) 0, outW (dg f) 1, outW (dg f) 2, outW (dg f) 3⟩, vW ⟨outW (dg f) 4, outW (dg f) 5, outW (dg f) 6, outW (dg f) 7⟩] : Value) = mulV4 x y := by
  have bx := W4.val_bd hx
  have by' := W4.val_bd hy
  have e33 : (List.range 33).map f = (List.range 32).map f ++ [f 32] := by rw [List.range_succ, List.map_append]; rfl
  have b32 : upto ((List.range 32).map f) 68717379600 := fun d hd => bz d (by rw [e33]; exact List.mem_append_left _ hd)
  have bf : 0 ≤ f 32 := (bz (f 32) (by rw [e33]; simp)).1
  obtain ⟨g1, g2, g3, g4⟩ := digs_spec ((List.range 32).map f) 0 b32 (by omega)
  have l32 : ((List.range 32).map f).length = 32 := by simp
  rw [e33, vR_append, l32] at hv
  rw [l32] at g2 g4
  rw [p512] at hv g4
  simp only [vR] at hv
  have hn : 0 ≤ vR (dg f) := vR_nonneg _ fun d hd => (g1 d hd).1
  have hm : x.val * y.val < 13407807929942597099574024998205846127479365820592393377723561443721764030073546976801874298166903427690031858186486050853753882811946569946433649006084096 := by
    have := Int.mul_le_mul (show x.val ≤ 115792089237316195423570985008687907853269984665640564039457584007913129639935 by omega) (show y.val ≤ 115792089237316195423570985008687907853269984665640564039457584007913129639935 by omega) by'.1 (by omega)
    omega
  have key : x.val * y.val = vR (dg f) := by
    unfold dg at *
    generalize x.val * y.val = N at *
    omega
  obtain ⟨o1, o2⟩ := out_all (D := dg f) g2 g1
  have ok1 : (⟨outW (dg f) 0, outW (dg f) 1, outW (dg f) 2, outW (dg f) 3⟩ : W4).ok := ⟨o1 0 (by omega), o1 1 (by omega), o1 2 (by omega), o1 3 (by omega)⟩
  have ok2 : (⟨outW (dg f) 4, outW (dg f) 5, outW (dg f) 6, outW (dg f) 7⟩ : W4).ok := ⟨o1 4 (by omega), o1 5 (by omega), o1 6 (by omega), o1 7 (by omega)⟩
  have bd1 := W4.val_bd ok1
  rw [← key] at o2
  have eL : W4.of (x.val * y.val) = ⟨outW (dg f) 0, outW (dg f) 1, outW (dg f) 2, outW (dg f) 3⟩ := W4.of_eq ok1 o2
  have eH : x.val * y.val / 115792089237316195423570985008687907853269984665640564039457584007913129639936 = (⟨outW (dg f) 4, outW (dg f) 5, outW (dg f) 6, outW (dg f) 7⟩ : W4).val := by
    rw [o2]
    generalize (⟨outW (dg f) 4, outW (dg f) 5, outW (dg f) 6, outW (dg f) 7⟩ : W4).val = q at *
    omega
  unfold mulV4
  rw [eL, eH, W4.of_val ok2]
theorem okRep (n : Nat) {p : Bool × Bool} (h : p.1 = p.2) : okLog (List.replicate n p) := fun x hx => by rw [List.eq_of_mem_replicate hx]; exact h
theorem lst_of {l : List Int} {n : Nat} (h : l.length = n) : ∃ f, l = (List.range n).map f := by
  refine ⟨fun i => l.getD i 0, ?_⟩
  refine List.ext_getElem (by simp [h]) fun i h1 h2 => ?_
  simp [h1]
theorem rmul_calls (x y : W4) (hx : x.ok) (hy : y.ok) (w : World) : Calls Tryd.prog 7 #[vW x, vW y] w fun e w' => e = .returned (mulV4 x y) ∧ Tidy w w' := by
  obtain ⟨px, vx⟩ := x16_spec hx
  obtain ⟨py, vy⟩ := x16_spec hy
  refine calls_of_runs (T := (tabOf Tryd.prog extY conN true)) Tryd.func7 rmul_body (vals := [vW x, vW y]) (by rfl) (by rfl) (goesT_list (tabY_ok conN_ok) (rmul_pre x y) (okRep 32 (by rfl)) fun g => ?_) w
  refine Runs.seq (P1 := fun e y' => e = none ∧ ∃ (v10 v11 : Value) (g : Nat → Value) (z : List Int), y'.1 = uFr (vW x) (vW y) (i6 16) v10 v11 undef undef undef ++ tl 94 g ∧ y'.2.1 = uHp (vU (x16 x)) (vU (x16 y)) (vU z) (kW x) (kW y) kZ kZ ∧ z.length = 33 ∧ upto z 68717379600 ∧ vR z = vR (x16 x) * vR (x16 y)) ?_ ?_ (fun e y he => by cases he.1)
  · refine Runs.seq (goesT_runs (tabY_ok conN_ok) (rmul_r (vW x) (vW y) (i6 16) undef undef undef undef undef _ g).t okNil) ?_ (fun e y he => by cases he.1)
    rintro ⟨t, h', s⟩ ⟨_, ⟨g', ht⟩, hh⟩
    simp only at ht hh
    subst ht hh
    refine (rmul_loop (x16 x) (x16 y) rfl rfl px py (vW x) (vW y) (i6 16) undef undef undef undef (kW x) (kW y) kZ kZ g' s).mono fun e y he => ?_
    match e, he with
    | none, he => exact ⟨rfl, he⟩
  · rintro ⟨t, h', s⟩ ⟨_, v10, v11, g', z, ht, hh, l1, bz, hv⟩
    simp only at ht hh
    subst ht hh
    rw [vx, vy] at hv
    obtain ⟨f, rfl⟩ := lst_of l1
    rw [← mul_word x y hx hy bz hv]
    refine (goesT_runs (tabY_ok conN_ok) (rmul_end (vW x) (vW y) (i6 16) v10 v11 undef undef undef f _ _ (kW x) (kW y) g') (okRep 32 (by rfl))).mono fun e y' he => ?_
    obtain ⟨rfl, ⟨g2, h2⟩, h3⟩ := he
    refine ⟨.inr rfl, ?_⟩
    rw [h2, h3]
    rfl
end Go.Proofs.YtdahpclbjeeeiaaDoor
