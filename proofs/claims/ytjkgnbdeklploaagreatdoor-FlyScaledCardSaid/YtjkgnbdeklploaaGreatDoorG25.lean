/-
  ConVH, SuP, PrR, PrX, PrY
-/
import Derived.Test.YtjkgnbdeklploaaGreatDoorG24
namespace Go.Proofs.YtjkgnbdeklploaaGreatDoor
open Go.KRun Go.Nt
set_option maxRecDepth 100000
set_option linter.unusedVariables false
theorem Runs.next {T : Tab} {c1 c2 : Code} {x : Lf} {front : List Value} {n : Nat} {h : Hp} {P : Ex → Lf → Prop} (h1 : Runs T c1 x fun e y => e = none ∧ (∃ g, y.1 = front ++ tl n g) ∧ y.2.1 = h) (h2 : ∀ g s, Runs T c2 (front ++ tl n g, h, s) P) : Runs T (.seq c1 c2) x P := by
  refine Runs.seq h1 (fun y hy => ?_) (fun e y hy => by cases hy.1)
  obtain ⟨_, ⟨g, e1⟩, e2⟩ := hy
  obtain ⟨t, hh, s⟩ := y
  simp only at e1 e2
  subst e1 e2
  exact h2 g s
theorem wU_setM (O : List Int) (j : Nat) (v : Int) : (wU O).set j (.int .u32 v) = wU (O.set j v) := by unfold wU; rw [List.map_set]
theorem wrap64M {n : Int} (h0 : 0 ≤ n) (h1 : n < 18446744073709551616) : IntKind.u64.wrap n = n := by simp [IntKind.wrap, IntKind.bits, IntKind.signed]; omega
theorem getD_of {O : List Int} {j : Nat} (h : j < O.length) : (wU O)[0 + j * 1]? = some (.int .u32 (O.getD j 0)) := by
  rw [Nat.zero_add, Nat.mul_one]
  unfold wU
  rw [List.getElem?_map, List.getElem?_eq_getElem h]
  simp [List.getD, List.getElem?_eq_getElem h]
theorem smallC_of {n : Nat} (h : n < 1000000) : smallC n = true := by
  unfold smallC
  exact blt_iff.2 (by have : dead = 4611686018427387904 := rfl; omega)
theorem nat_dg {x : Int} (h : Dg 65536 x) : ∃ p : Nat, x = (p : Int) ∧ p < 65536 := ⟨x.toNat, by have := h.1; omega, by have := h.1; have := h.2; omega⟩
section
variable {la lb : List Value} {o c o' c' : Nat} {A B : List Int}
def mSt (o n c o' n' c' z : Nat) (la lb : List Value) (O : List Int) (i : Nat) (v7 v8 : Value) (Y : Lf) : Prop := (∃ g, Y.1 = mFr o n c o' n' c' z (.int .i64 ((i : Nat) : Int)) v7 v8 ++ tl 59 g) ∧ Y.2.1 = hM3 (wU O) lb la
def mOk (z i n' : Nat) (O : List Int) : Prop := O.length = z ∧ (∀ x ∈ O, Dg 65536 x) ∧ ∀ j, i + n' ≤ j → O.getD j 0 = 0
def mIn (o c o' c' : Nat) (la lb : List Value) (A B : List Int) (i V : Nat) (m : Nat) (Y : Lf) : Prop :=
  ∃ k O c7, m = B.length - k ∧ k ≤ B.length ∧ mOk (A.length + B.length) i B.length O ∧ c7 < 65536 ∧ vb 65536 O + c7 * 65536 ^ (i + k) = V + (A.getD i 0).toNat * vb 65536 (B.take k) * 65536 ^ i ∧ mSt o A.length c o' B.length c' (A.length + B.length) la lb O i (.int .u64 ((c7 : Nat) : Int)) (.int .i64 ((k : Nat) : Int)) Y
def mFi (o c o' c' : Nat) (la lb : List Value) (A B : List Int) (i V : Nat) (Y : Lf) : Prop :=
  ∃ O c7 v8, mOk (A.length + B.length) i B.length O ∧ c7 < 65536 ∧ vb 65536 O + c7 * 65536 ^ (i + B.length) = V + (A.getD i 0).toNat * vb 65536 B * 65536 ^ i ∧ mSt o A.length c o' B.length c' (A.length + B.length) la lb O i (.int .u64 ((c7 : Nat) : Int)) v8 Y
theorem set_mOk {z i n' : Nat} {O : List Int} (h : mOk z i n' O) {j : Nat} (hj : j < i + n') {v : Int} (hv : ∀ x ∈ O.set j v, Dg 65536 x) : mOk z i n' (O.set j v) := by
  refine ⟨by rw [List.length_set]; exact h.1, hv, fun t ht => ?_⟩
  have := h.2.2 t ht
  simp only [List.getD] at *
  rw [List.getElem?_set_ne (by omega)]
  exact this
theorem umul_inner (rA : Row la o A) (rB : Row lb o' B) (dA : ∀ x ∈ A, Dg 65536 x) (dB : ∀ x ∈ B, Dg 65536 x) (hz : A.length + B.length < 1000000) {i V : Nat} (hi : i < A.length) {Y0 : Lf} (h0 : mIn o c o' c' la lb A B i V B.length Y0) :
    Runs (tabH Tryz.prog extY conN hcV) (.block 2 (.loop (muL Tryz.f59))) Y0 fun e Y => match e with | none => mFi o c o' c' la lb A B i V Y | some none => False | some (some _) => False := by
  refine Runs.forLoop (P := mFi o c o' c' la lb A B i V) (R := fun _ => False) (mIn o c o' c' la lb A B i V) ?_ (n := B.length) h0
  rintro m ⟨t, h', s⟩ ⟨k, O, c7, hm, hk, hO, hc, hval, ⟨g, ht⟩, hh⟩
  simp only at ht hh
  subst ht hh
  by_cases hlt : k < B.length
  · have hj : i + k < O.length := by rw [hO.1]; omega
    obtain ⟨p, ep, hp⟩ := nat_dg (at_dg dA i)
    obtain ⟨q, eq, hq⟩ := nat_dg (at_dg dB k)
    obtain ⟨d, ed, hd⟩ := nat_dg (at_dg hO.2.1 (i + k))
    have eij : ijM i k = ((i + k : Nat) : Int) := by unfold ijM; rw [wrapI (by omega) (by omega)]; omega
    have hpq : p * q ≤ 65535 * 65535 := Nat.mul_le_mul (by omega) (by omega)
    have epq : (p : Int) * (q : Int) = ((p * q : Nat) : Int) := by simp
    have eT : tM c7 d p q = ((c7 + d + p * q : Nat) : Int) := by
      unfold tM
      rw [wrap64M (n := (d : Int)) (by omega) (by omega), wrap64M (n := (p : Int)) (by omega) (by omega), wrap64M (n := (q : Int)) (by omega) (by omega), epq, wrap64M (n := ((p * q : Nat) : Int)) (by omega) (by omega), wrap64M (n := (c7 : Int) + (d : Int)) (by omega) (by omega), wrap64M (by omega) (by omega)]
      omega
    have e1 : IntKind.u64.wrap ((tM c7 d p q).tdiv 65536) = (((c7 + d + p * q) / 65536 : Nat) : Int) := by
      rw [eT, Int.tdiv_eq_ediv_of_nonneg (by omega), wrap64M (by omega) (by omega)]
      omega
    have e2 : IntKind.u32.wrap ((tM c7 d p q).tmod 65536) = (((c7 + d + p * q) % 65536 : Nat) : Int) := by
      rw [eT, Int.tmod_eq_emod_of_nonneg (by omega), wrap32 (by omega) (by omega)]
      omega
    have e3 : IntKind.i64.wrap ((k : Int) + 1) = ((k + 1 : Nat) : Int) := by rw [wrapI (by omega) (by omega)]; omega
    have hstep := mul_step hj hO.2.1 hc hp hq
    rw [ed, Int.toNat_natCast] at hstep
    obtain ⟨s1, s2, s3⟩ := hstep
    have hw := mu_in o A.length c o' B.length c' (A.length + B.length) i c7 k d p q undef undef (wU O) lb la g
    have lg : okLog [stM (wU O) (ijM i k), inM (ijM i k) (A.length + B.length), d65, ceM lb o' k q, inM k B.length, ceM la o i p, inM i A.length, ceM (wU O) 0 (ijM i k) d, inM (ijM i k) (A.length + B.length), (decide ((k : Int) < ((B.length : Nat) : Int)), true)] := by
      have g1 : decide (0 + (ijM i k).toNat * 1 < (wU O).length) = true := decide_eq_true (by rw [eij, Int.toNat_natCast, wU_len]; omega)
      have g2 : decide (0 ≤ ijM i k ∧ ijM i k < ((A.length + B.length : Nat) : Int)) = true := decide_eq_true (by rw [eij]; omega)
      have g3 : cellIs (lb[o' + (k : Int).toNat * 1]?) (.int .u32 q) = true := by rw [Int.toNat_natCast, Nat.mul_one, rB.cell hlt, eq]; simp [cellIs]
      have g4 : decide (0 ≤ (k : Int) ∧ (k : Int) < ((B.length : Nat) : Int)) = true := decide_eq_true (by omega)
      have g5 : cellIs (la[o + (i : Int).toNat * 1]?) (.int .u32 p) = true := by rw [Int.toNat_natCast, Nat.mul_one, rA.cell hi, ep]; simp [cellIs]
      have g6 : decide (0 ≤ (i : Int) ∧ (i : Int) < ((A.length : Nat) : Int)) = true := decide_eq_true (by omega)
      have g7 : cellIs ((wU O)[0 + (ijM i k).toNat * 1]?) (.int .u32 d) = true := by rw [eij, Int.toNat_natCast, getD_of hj, ed]; simp [cellIs]
      exact okTwo g1 (okTwo g2 (okTwo rfl (okTwo g3 (okTwo g4 (okTwo g5 (okTwo g6 (okTwo g7 (okTwo g2 (okOne (decide_eq_true (by omega)))))))))))
    rw [e1, e2, e3, eij, Int.toNat_natCast, Nat.zero_add, Nat.mul_one, wU_setM] at hw
    refine (goesT_runs (tabH_ok conN_ok hcV_ok) hw (by rw [← Int.toNat_natCast (i + k), ← eij] at *; exact lg)).mono fun e z hz => ?_
    obtain ⟨rfl, z1, z2⟩ := hz
    refine ⟨B.length - (k + 1), by omega, k + 1, O.set (i + k) (((c7 + d + p * q) % 65536 : Nat) : Int), (c7 + d + p * q) / 65536, rfl, by omega, set_mOk hO (by omega) s3, s2, ?_, z1, z2⟩
    rw [vb_take, Nat.mul_add, Nat.add_mul, eq, Int.toNat_natCast, ep, Int.toNat_natCast]
    rw [ep, Int.toNat_natCast] at hval
    have x1 : p * (65536 ^ k * q) * 65536 ^ i = p * q * 65536 ^ (i + k) := by rw [Nat.pow_add, Nat.mul_comm (65536 ^ k) q, ← Nat.mul_assoc, Nat.mul_assoc (p * q), Nat.mul_comm (65536 ^ k)]
    rw [x1]
    have x2 : i + (k + 1) = i + k + 1 := by omega
    rw [x2]
    omega
  · have hkl : k = B.length := by omega
    subst hkl
    refine (goesT_runs (tabH_ok conN_ok hcV_ok) (mu_out o A.length c o' B.length c' (A.length + B.length) i c7 ((B.length : Nat) : Int) 0 0 0 undef undef (wU O) lb la g) (okOne (decide_eq_false (by omega)))).mono fun e z hz => ?_
    obtain ⟨rfl, z1, z2⟩ := hz
    rw [List.take_length] at hval
    exact ⟨rfl, O, c7, _, hO, hc, hval, z1, z2⟩
theorem blk1 {T : Tab} {c : Code} {id : Nat} {x : Lf} {P : Lf → Prop} (h : Runs T c x fun e y => e = none ∧ P y) : Runs T (.block id c) x fun e y => e = none ∧ P y :=
  Runs.block h (fun y hy => hy) (fun y hy => by cases hy.1) (fun y hy => by cases hy.1) (fun id' y _ hy => by cases hy.1)
def mOu (o c o' c' : Nat) (la lb : List Value) (A B : List Int) (i : Nat) (Y : Lf) : Prop :=
  ∃ O v7 v8, mOk (A.length + B.length) i B.length O ∧ vb 65536 O = vb 65536 (A.take i) * vb 65536 B ∧ mSt o A.length c o' B.length c' (A.length + B.length) la lb O i v7 v8 Y
theorem umul_round (rA : Row la o A) (rB : Row lb o' B) (dA : ∀ x ∈ A, Dg 65536 x) (dB : ∀ x ∈ B, Dg 65536 x) (hz : A.length + B.length < 1000000) {i : Nat} (hi : i < A.length) {Y0 : Lf} (h0 : mOu o c o' c' la lb A B i Y0) :
    Runs (tabH Tryz.prog extY conN hcV) (muO Tryz.f59) Y0 fun e Y => e = none ∧ mOu o c o' c' la lb A B (i + 1) Y := by
  obtain ⟨O, v7, v8, hO, hval, ⟨g, ht⟩, hh⟩ := h0
  obtain ⟨t, h', s⟩ := Y0
  simp only at ht hh
  subst ht hh
  have hT := tabH_ok conN_ok hcV_ok
  rw [umul_out]
  refine Runs.next (goesT_runs hT (mu_h1 o A.length c o' B.length c' (A.length + B.length) i 0 0 0 0 0 v7 v8 (wU O) lb la g) (okOne (decide_eq_true (by omega)))) fun g s => ?_
  refine Runs.seq (P1 := fun e Y => e = none ∧ ∃ O v7 v8, mOk (A.length + B.length) (i + 1) B.length O ∧ vb 65536 O = vb 65536 (A.take (i + 1)) * vb 65536 B ∧ mSt o A.length c o' B.length c' (A.length + B.length) la lb O i v7 v8 Y) (blk1 ?_) ?_ (fun e y hy => by cases hy.1)
  · rw [umul_row]
    refine Runs.next (goesT_runs hT (mu_r5 o A.length c o' B.length c' (A.length + B.length) i 0 0 0 0 0 v7 v8 (wU O) lb la g) (fun _ h => by cases h)) fun g s => ?_
    refine Runs.seq (P1 := fun e Y => e = none ∧ mFi o c o' c' la lb A B i (vb 65536 O) Y) ?_ ?_ (fun e y hy => by cases hy.1)
    · refine Runs.next (goesT_runs hT (mu_r6 o A.length c o' B.length c' (A.length + B.length) i 0 0 0 0 0 (.int .u64 0) v8 (wU O) lb la g) (fun _ h => by cases h)) fun g s => ?_
      refine (umul_inner rA rB dA dB hz hi (V := vb 65536 O) ⟨0, O, 0, by omega, by omega, hO, by omega, ?_, ⟨g, rfl⟩, rfl⟩).mono fun e Y hY => ?_
      · simp [vb]
      · match e, hY with
        | none, hY => exact ⟨rfl, hY⟩
        | some none, hY => exact hY.elim
        | some (some _), hY => exact hY.elim
    · rintro ⟨t, h', s⟩ ⟨_, O', c7, w8, hO', hc7, hv', ⟨g, ht⟩, hh⟩
      simp only at ht hh
      subst ht hh
      have hj : i + B.length < O'.length := by rw [hO'.1]; omega
      have eij : ijM i ((B.length : Nat) : Int) = ((i + B.length : Nat) : Int) := by unfold ijM; rw [wrapI (by omega) (by omega)]; omega
      have e1 : IntKind.u32.wrap ((c7 : Nat) : Int) = ((c7 : Nat) : Int) := wrap32 (by omega) (by omega)
      have hw := mu_r12 o A.length c o' B.length c' (A.length + B.length) i c7 0 0 0 0 undef w8 (wU O') lb la g
      have g1 : decide (0 + (ijM i ((B.length : Nat) : Int)).toNat * 1 < (wU O').length) = true := decide_eq_true (by rw [eij, Int.toNat_natCast, wU_len]; omega)
      have g2 : decide (0 ≤ ijM i ((B.length : Nat) : Int) ∧ ijM i ((B.length : Nat) : Int) < ((A.length + B.length : Nat) : Int)) = true := decide_eq_true (by rw [eij]; omega)
      have r := goesT_runs (s0 := s) hT hw (okTwo g1 (okOne g2))
      rw [e1, eij, Int.toNat_natCast, Nat.zero_add, Nat.mul_one, wU_setM] at r
      refine r.mono fun e z hz => ?_
      obtain ⟨rfl, z1, z2⟩ := hz
      have hdg : ∀ x ∈ O'.set (i + B.length) ((c7 : Nat) : Int), Dg 65536 x := set_dg hO'.2.1 ⟨by omega, by omega⟩ _
      refine ⟨rfl, O'.set (i + B.length) ((c7 : Nat) : Int), _, _, ⟨by rw [List.length_set]; exact hO'.1, hdg, fun j hj' => ?_⟩, ?_, z1, z2⟩
      · have := hO'.2.2 j (by omega)
        simp only [List.getD] at *
        rw [List.getElem?_set_ne (by omega)]
        exact this
      · have hs := vb_set (b := 65536) hj ((c7 : Nat) : Int)
        rw [hO'.2.2 (i + B.length) (Nat.le_refl _), Int.toNat_natCast] at hs
        rw [vb_take, Nat.add_mul, ← hval]
        have x1 : 65536 ^ i * (A.getD i 0).toNat * vb 65536 B = (A.getD i 0).toNat * vb 65536 B * 65536 ^ i := by rw [Nat.mul_assoc, Nat.mul_comm]
        rw [x1]
        have x2 : c7 * 65536 ^ (i + B.length) = 65536 ^ (i + B.length) * c7 := Nat.mul_comm _ _
        have x3 : (65536 : Nat) ^ (i + B.length) * (0 : Int).toNat = 0 := by simp
        omega
  · rintro ⟨t, h', s⟩ ⟨_, O', w7, w8, hO', hv', ⟨g, ht⟩, hh⟩
    simp only at ht hh
    subst ht hh
    have e3 : IntKind.i64.wrap ((i : Int) + 1) = ((i + 1 : Nat) : Int) := by rw [wrapI (by omega) (by omega)]; omega
    have hw := mu_r4 o A.length c o' B.length c' (A.length + B.length) i 0 0 0 0 0 w7 w8 (wU O') lb la g
    rw [e3] at hw
    refine (goesT_runs hT hw (fun _ h => by cases h)).mono fun e z hz => ?_
    obtain ⟨rfl, z1, z2⟩ := hz
    exact ⟨rfl, O', w7, w8, hO', hv', z1, z2⟩
theorem umul_loop (rA : Row la o A) (rB : Row lb o' B) (dA : ∀ x ∈ A, Dg 65536 x) (dB : ∀ x ∈ B, Dg 65536 x) (hz : A.length + B.length < 1000000) {Y0 : Lf} (h0 : mOu o c o' c' la lb A B 0 Y0) :
    Runs (tabH Tryz.prog extY conN hcV) (.block 0 (.loop (muO Tryz.f59))) Y0 fun e Y => match e with | none => mOu o c o' c' la lb A B A.length Y | some none => False | some (some _) => False := by
  refine Runs.forLoop (P := mOu o c o' c' la lb A B A.length) (R := fun _ => False) (fun m Y => ∃ i, m = A.length - i ∧ i ≤ A.length ∧ mOu o c o' c' la lb A B i Y) ?_ (n := A.length) ⟨0, by omega, by omega, h0⟩
  rintro m Y ⟨i, hm, hi, hY⟩
  by_cases hlt : i < A.length
  · refine (umul_round rA rB dA dB hz hlt hY).mono fun e z hz' => ?_
    obtain ⟨rfl, z1⟩ := hz'
    exact ⟨A.length - (i + 1), by omega, i + 1, rfl, by omega, z1⟩
  · have hil : i = A.length := by omega
    subst hil
    obtain ⟨O, v7, v8, hO, hval, ⟨g, ht⟩, hh⟩ := hY
    obtain ⟨t, h', s⟩ := Y
    simp only at ht hh
    subst ht hh
    rw [umul_out]
    refine Runs.seq (goesT_runs (tabH_ok conN_ok hcV_ok) (mu_h0 o A.length c o' B.length c' (A.length + B.length) ((A.length : Nat) : Int) 0 0 0 0 0 v7 v8 (wU O) lb la g) (okOne (decide_eq_false (by omega)))) (fun y hy => by cases hy.1) (fun e y hy => ?_)
    obtain ⟨e1, z1, z2⟩ := hy
    cases e1
    exact ⟨rfl, O, v7, v8, hO, hval, z1, z2⟩
theorem umul_runs (rA : Row la o A) (rB : Row lb o' B) (dA : ∀ x ∈ A, Dg 65536 x) (dB : ∀ x ∈ B, Dg 65536 x) (hz : A.length + B.length < 1000000) :
    Runs (tabH Tryz.prog extY conN hcV) (seqs (muPr Tryz.f59) (.seq (.seq (cFst (muB Tryz.f59)) (.block 0 (.loop (muO Tryz.f59)))) (muE Tryz.f59))) ([sl 0 o A.length c, sl 1 o' B.length c'] ++ List.replicate 66 undef, h2 la lb, []) fun e z => (e = none ∨ e = some none) ∧ resS Tryz.prog Tryz.f59 z.1 z.2.1 = some (sl 2 0 (d16 (vb 65536 A * vb 65536 B)).length (d16 (vb 65536 A * vb 65536 B)).length) ∧ ∃ r, z.2.1.blk? 2 = some (wU (d16 (vb 65536 A * vb 65536 B)) ++ r, tU) := by
  have hT := tabH_ok conN_ok hcV_ok
  have ez : zM A.length B.length = ((A.length + B.length : Nat) : Int) := by unfold zM; rw [wrapI (by omega) (by omega)]; omega
  have hp := mu_pre o A.length c o' B.length c' la lb
  have mk : okMakeB 4 (zM A.length B.length) (zM A.length B.length) = true := by unfold okMakeB; rw [ez]; exact decide_eq_true (by omega)
  refine goesT_list hT hp (okOne mk) fun g => ?_
  rw [ez, Int.toNat_natCast]
  have ew : List.replicate (A.length + B.length) (Value.int .u32 0) = wU (List.replicate (A.length + B.length) 0) := by unfold wU; rw [List.map_replicate]
  rw [ew]
  have hrep : mOk (A.length + B.length) 0 B.length (List.replicate (A.length + B.length) (0 : Int)) := by
    refine ⟨by simp, fun x hx => ?_, fun j _ => ?_⟩
    · rw [List.eq_of_mem_replicate hx]; exact ⟨by omega, by omega⟩
    · simp only [List.getD, List.getElem?_replicate]
      split <;> rfl
  have hv0 : ∀ n : Nat, vb 65536 (List.replicate n (0 : Int)) = 0 := fun n => by
    induction n with
    | zero => rfl
    | succ n ih => rw [List.replicate_succ]; simp only [vb, ih]; rfl
  refine Runs.seq (P1 := fun e Y => e = none ∧ mOu o c o' c' la lb A B A.length Y) ?_ ?_ (fun e y hy => by cases hy.1)
  · refine Runs.next (goesT_runs hT (mu_r2 (sl 0 o A.length c) (sl 1 o' B.length c') (sl 2 0 (A.length + B.length) (A.length + B.length)) _ g) (fun _ h => by cases h)) fun g s => ?_
    refine (umul_loop rA rB dA dB hz ⟨List.replicate (A.length + B.length) 0, _, _, hrep, by rw [hv0]; simp [vb], ⟨g, rfl⟩, rfl⟩).mono fun e Y hY => ?_
    match e, hY with
    | none, hY => exact ⟨rfl, hY⟩
    | some none, hY => exact hY.elim
    | some (some _), hY => exact hY.elim
  · rintro ⟨t, h', s⟩ ⟨_, O, v7, v8, hO, hval, ⟨g, ht⟩, hh⟩
    simp only at ht hh
    subst ht hh
    rw [List.take_length] at hval
    have hl := hO.1
    have hrow : rowC tU (wU O) 0 (A.length + B.length) (A.length + B.length) = true := by
      have := rowC_wU (L := O) (fun x hx => ⟨(hO.2.1 x hx).1, by have := (hO.2.1 x hx).2; omega⟩) (by rw [hl]; omega) (c := A.length + B.length) (by rw [hl]; unfold capOk; simp; exact .inl (smallC_of (by omega)))
      rw [hl] at this
      exact this
    have ec : cutI (wU O) 0 (A.length + B.length) = O := by
      have := cut_wU O
      rw [hl] at this
      exact this
    have et : trimN O = (d16 (vb 65536 A * vb 65536 B)).length := by
      rw [trim_len (by omega) hO.2.1, hval]
      rfl
    refine (goesT_runs hT (mu_end o A.length c o' B.length c' (A.length + B.length) ((A.length : Nat) : Int) 0 0 0 0 0 v7 v8 (wU O) lb la g) (okOne hrow)).mono fun e z hz' => ?_
    obtain ⟨rfl, ⟨g', e1⟩, e2⟩ := hz'
    refine ⟨.inr rfl, ?_, ?_⟩
    · rw [e1, e2, ec, et]
      rfl
    · rw [e2]
      refine ⟨wU (O.drop (trimN O)), ?_⟩
      have e3 : wU (d16 (vb 65536 A * vb 65536 B)) ++ wU (O.drop (trimN O)) = wU O := by
        unfold d16
        rw [← hval, ← take_trim (by omega) _ hO.2.1, ← wU_append, List.take_append_drop]
      rw [e3]
      rfl
end
def okMu (h : Hp) (p q : Option Addr) (n c n' c' : Nat) : Bool := rowP h p n c && dgB (rowOf h p n) && (rowP h q n' c' && dgB (rowOf h q n')) && Nat.blt (n + n') 1000000
def gUmul : AnsH := fun vals h s =>
  match vals with
  | [.slice (some ⟨b, o, none⟩) n c, .slice (some ⟨b', o', none⟩) n' c'] => mk16 (vO h (some ⟨b, o, none⟩) n * vO h (some ⟨b', o', none⟩) n') h s [(okMu h (some ⟨b, o, none⟩) (some ⟨b', o', none⟩) n c n' c', true)]
  | _ => none
theorem gUmul_ok : AnsHOk 59 gUmul := by
  intro vals h s v h' s' lg hg hl m B w E0 hv
  unfold gUmul at hg
  split at hg
  · rename_i b o n c b' o' n' c'
    unfold mk16 at hg
    cases hg
    have l3 := hl _ (List.mem_singleton.2 rfl)
    simp only [okMu, Bool.and_eq_true] at l3
    obtain ⟨⟨⟨q1, q2⟩, ⟨p1, p2⟩⟩, q4⟩ := l3
    have q2 := dgB_of q2
    have p2 := dgB_of p2
    have q4 := blt_iff.1 q4
    rcases rowP_cases q1 with ⟨h0, _⟩ | ⟨b1, o1, x, hp, hx, r1, rs, e0⟩
    · cases h0
    · cases hp
      rcases rowP_cases p1 with ⟨h0, _⟩ | ⟨b2, o2, y, hp', hy, t1, ts, f0⟩
      · cases h0
      · cases hp'
        rw [e0] at q2
        rw [f0] at p2
        obtain ⟨h1, h2', h3, h4, h5, h6, h7⟩ := rowC_of r1
        obtain ⟨k1, k2, k3, k4, k5, k6, k7⟩ := rowC_of t1
        have ev : vO h (some ⟨b, o, none⟩) n = vb 65536 (cutI x.1 o n) := by unfold vO; rw [e0]
        have ev' : vO h (some ⟨b', o', none⟩) n' = vb 65536 (cutI y.1 o' n') := by unfold vO; rw [f0]
        have r := umul_runs (c := c) (c' := c') h1 k1 q2 p2 (by rw [h2', k2]; exact q4)
        rw [h2', k2, ← ev, ← ev'] at r
        have evals : List.map (rn (pair b b')) [sl 0 o n c, sl 1 o' n' c'] = [.slice (some ⟨b, o, none⟩) n c, .slice (some ⟨b', o', none⟩) n' c'] := by
          simp [rn, rn2, rn1, sl, pair]
        have fin := row_calls1 (T := tabH Tryz.prog extY conN hcV) Tryz.func59 umul_body (rows2 h7 k7) (vals := [sl 0 o n c, sl 1 o' n' c']) (fun v hv => by
          simp only [List.mem_cons, List.not_mem_nil, or_false] at hv
          rcases hv with h1 | h1 <;> rw [h1] <;> rfl) (k := 2) (cs := wU (d16 (vO h (some ⟨b, o, none⟩) n * vO h (some ⟨b', o', none⟩) n'))) (ty := tU) (wU_lt _) (by kernel_rfl) r.w (by rfl) E0 (s := pair b b') (fitsR2 hx h5 h6 hy k5 k6)
        rw [evals] at fin
        exact fin
  · cases hg
end Go.Proofs.YtjkgnbdeklploaaGreatDoor
namespace Go.Proofs.YtjkgnbdeklploaaGreatDoor
open Go.KRun Go.Nt Go.Wd Go.Rn Go.Pt
set_option maxRecDepth 100000
theorem lowF_bd {F Ex Ey : Int} (h1 : F ≤ Ex) (h2 : F ≤ Ey) (n n' : Nat) : F ≤ lowS Ex Ey n n' := by
  unfold lowS lowM
  split
  · exact h1
  · split
    · exact h2
    · split <;> omega
theorem sm_lowF {F Ex Ey : Int} (h1 : F ≤ Ex) (h2 : F ≤ Ey) {n n' X Y : Nat} (hX : n = 0 ↔ X = 0) (hY : n' = 0 ↔ Y = 0) (nx ny : Bool) : smI F nx Ex X ny Ey Y = smI (lowS Ex Ey n n') nx Ex X ny Ey Y * ((2 ^ (lowS Ex Ey n n' - F).toNat : Nat) : Int) := by
  by_cases c1 : n' = 0
  · have e : lowS Ex Ey n n' = Ex := by unfold lowS; rw [if_pos c1]
    rw [e, hY.1 c1]
    unfold smI
    rw [szF_nil, szF_nil, sgI_nil, Int.add_zero, Int.add_zero, szF_low h1 (Int.le_refl Ex), sgI_mul]
  · by_cases c2 : n = 0
    · have e : lowS Ex Ey n n' = Ey := by unfold lowS; rw [if_neg c1, if_pos c2]
      rw [e, hX.1 c2]
      unfold smI
      rw [szF_nil, szF_nil, sgI_nil, Int.zero_add, Int.zero_add, szF_low h2 (Int.le_refl Ey), sgI_mul]
    · have e : lowS Ex Ey n n' = lowM Ex Ey := by unfold lowS; rw [if_neg c1, if_neg c2]
      rw [e]
      exact smI_low (by unfold lowM; split <;> omega) (by unfold lowM; split <;> omega) (by unfold lowM; split <;> omega) nx ny X Y
theorem len_zeroF (V : Nat) : (d16 V).length = 0 ↔ V = 0 := by
  constructor
  · intro h; exact d16_zero (by omega)
  · intro h; rw [h]; unfold d16; rw [db_zero]; rfl
theorem low_nearF {Ex Ey : Int} (n n' : Nat) : lowS Ex Ey n n' = Ex ∨ lowS Ex Ey n n' = Ey := by
  unfold lowS lowM
  split
  · exact .inl rfl
  · split
    · exact .inr rfl
    · split
      · exact .inr rfl
      · exact .inl rfl
theorem szF_ltF {F E : Int} {X k j : Nat} (hX : X < 2 ^ k) (h : (E - F).toNat ≤ j) : szF F E X < 2 ^ (k + j) := by
  unfold szF
  have hp : 0 < 2 ^ (E - F).toNat := Nat.pow_pos (by omega)
  have h1 := Nat.mul_lt_mul_of_pos_right hX hp
  rw [← Nat.pow_add] at h1
  exact Nat.lt_of_lt_of_le h1 (Nat.pow_le_pow_right (by omega) (by omega))
end Go.Proofs.YtjkgnbdeklploaaGreatDoor
namespace Go.Proofs.YtjkgnbdeklploaaGreatDoor
open Go.KRun Go.Nt Go.Wd Go.Pt Go.Rn
set_option maxRecDepth 100000
theorem rb_tt (a b : Int) : Fits (reckon (tabH Tryz.prog extY conRA hcS) 300 55 [.int .u64 a, .int .u64 b] [cmp true, cmp true]) (.bool true) [(mag b == 9218868437227405312, true), (mag a == 0, true), lU b, lU a] := ⟨by kernel_rfl, by kernel_rfl, by kernel_rfl, by kernel_rfl⟩
theorem rb_tff (a b : Int) : Fits (reckon (tabH Tryz.prog extY conRA hcS) 300 55 [.int .u64 a, .int .u64 b] [cmp true, cmp false, cmp false]) (.bool false) [(mag b == 0, false), (mag b == 9218868437227405312, false), (mag a == 0, true), lU b, lU a] := ⟨by kernel_rfl, by kernel_rfl, by kernel_rfl, by kernel_rfl⟩
theorem rb_tft (a b : Int) : Fits (reckon (tabH Tryz.prog extY conRA hcS) 300 55 [.int .u64 a, .int .u64 b] [cmp true, cmp false, cmp true, cmp false]) (.bool false) [(mag a == 9218868437227405312, false), (mag b == 0, true), (mag b == 9218868437227405312, false), (mag a == 0, true), lU b, lU a] := ⟨by kernel_rfl, by kernel_rfl, by kernel_rfl, by kernel_rfl⟩
theorem rb_ff (a b : Int) : Fits (reckon (tabH Tryz.prog extY conRA hcS) 300 55 [.int .u64 a, .int .u64 b] [cmp false, cmp false]) (.bool false) [(mag b == 0, false), (mag a == 0, false), lU b, lU a] := ⟨by kernel_rfl, by kernel_rfl, by kernel_rfl, by kernel_rfl⟩
theorem rb_ftt (a b : Int) : Fits (reckon (tabH Tryz.prog extY conRA hcS) 300 55 [.int .u64 a, .int .u64 b] [cmp false, cmp true, cmp true]) (.bool true) [(mag a == 9218868437227405312, true), (mag b == 0, true), (mag a == 0, false), lU b, lU a] := ⟨by kernel_rfl, by kernel_rfl, by kernel_rfl, by kernel_rfl⟩
theorem rb_ftf (a b : Int) : Fits (reckon (tabH Tryz.prog extY conRA hcS) 300 55 [.int .u64 a, .int .u64 b] [cmp false, cmp true, cmp false]) (.bool false) [(mag a == 9218868437227405312, false), (mag b == 0, true), (mag a == 0, false), lU b, lU a] := ⟨by kernel_rfl, by kernel_rfl, by kernel_rfl, by kernel_rfl⟩
theorem rs_tt (p a b : Int) : Fits (reckon (tabH Tryz.prog extY conRA hcS) 300 56 [.int .u64 p, .int .u64 a, .int .u64 b] [cmp true, cmp true]) (.int .u64 p) [(decide (b ≥ 9223372036854775808), true), (decide (a ≥ 9223372036854775808), true)] := ⟨by kernel_rfl, by kernel_rfl, by kernel_rfl, by kernel_rfl⟩
theorem rs_tf (p a b : Int) : Fits (reckon (tabH Tryz.prog extY conRA hcS) 300 56 [.int .u64 p, .int .u64 a, .int .u64 b] [cmp true, cmp false]) (.int .u64 (IntKind.u64.wrap (p + 9223372036854775808))) [(decide (b ≥ 9223372036854775808), false), (decide (a ≥ 9223372036854775808), true)] := ⟨by kernel_rfl, by kernel_rfl, by kernel_rfl, by kernel_rfl⟩
theorem rs_ft (p a b : Int) : Fits (reckon (tabH Tryz.prog extY conRA hcS) 300 56 [.int .u64 p, .int .u64 a, .int .u64 b] [cmp false, cmp true]) (.int .u64 (IntKind.u64.wrap (p + 9223372036854775808))) [(decide (b ≥ 9223372036854775808), true), (decide (a ≥ 9223372036854775808), false)] := ⟨by kernel_rfl, by kernel_rfl, by kernel_rfl, by kernel_rfl⟩
theorem rs_ff (p a b : Int) : Fits (reckon (tabH Tryz.prog extY conRA hcS) 300 56 [.int .u64 p, .int .u64 a, .int .u64 b] [cmp false, cmp false]) (.int .u64 p) [(decide (b ≥ 9223372036854775808), false), (decide (a ≥ 9223372036854775808), false)] := ⟨by kernel_rfl, by kernel_rfl, by kernel_rfl, by kernel_rfl⟩
theorem cl_zero (p : Int) : cl p = 0 ↔ mag p = 0 := by
  have h1 := mag_eq p
  have h2 := ex_lt p
  have h3 := fr_lt p
  rw [h1]
  unfold cl
  split
  · split <;> omega
  · split
    · split
      · omega
      · split <;> omega
    · omega
theorem rbad_calls (a b : Int) (ha : U a) (hb : U b) (w : World) : Calls Tryz.prog 55 #[.int .u64 a, .int .u64 b] w fun r w' => r = .returned (.bool (badB a b)) ∧ Tidy w w' := by
  have hv : ([.int .u64 a, .int .u64 b].all (lt 0)) = true := rfl
  have T := tabH_ok conRA_ok hcS_ok
  have ka : decide (U a) = true := decide_eq_true ha
  have kb : decide (U b) = true := decide_eq_true hb
  have e : badB a b = decide ((mag a = 0 ∧ mag b = 9218868437227405312) ∨ (mag a = 9218868437227405312 ∧ mag b = 0)) := by
    unfold badB
    simp only [cl_zero, (mag_cl a).2.1, (mag_cl b).2.1]
  rw [e]
  by_cases az : mag a = 0
  · have ai : mag a ≠ 9218868437227405312 := by omega
    by_cases bi : mag b = 9218868437227405312
    · rw [decide_eq_true (.inl ⟨az, bi⟩)]
      exact fits_calls T (rb_tt a b) (okCons (beq_t bi) (okCons (beq_t az) (okCons kb (okL1 ka)))) hv (by rfl) w
    · rw [decide_eq_false (by omega)]
      by_cases bz : mag b = 0
      · exact fits_calls T (rb_tft a b) (okCons (beq_f ai) (okCons (beq_t bz) (okCons (beq_f bi) (okCons (beq_t az) (okCons kb (okL1 ka)))))) hv (by rfl) w
      · exact fits_calls T (rb_tff a b) (okCons (beq_f bz) (okCons (beq_f bi) (okCons (beq_t az) (okCons kb (okL1 ka))))) hv (by rfl) w
  · by_cases bz : mag b = 0
    · by_cases ai : mag a = 9218868437227405312
      · rw [decide_eq_true (.inr ⟨ai, bz⟩)]
        exact fits_calls T (rb_ftt a b) (okCons (beq_t ai) (okCons (beq_t bz) (okCons (beq_f az) (okCons kb (okL1 ka))))) hv (by rfl) w
      · rw [decide_eq_false (by omega)]
        exact fits_calls T (rb_ftf a b) (okCons (beq_f ai) (okCons (beq_t bz) (okCons (beq_f az) (okCons kb (okL1 ka))))) hv (by rfl) w
    · rw [decide_eq_false (by omega)]
      exact fits_calls T (rb_ff a b) (okCons (beq_f bz) (okCons (beq_f az) (okCons kb (okL1 ka)))) hv (by rfl) w
def sgB (p a b : Int) : Int := sS (prN a b) p
theorem rsgn_calls (p a b : Int) (hp : 0 ≤ p ∧ p < 9223372036854775808) (w : World) : Calls Tryz.prog 56 #[.int .u64 p, .int .u64 a, .int .u64 b] w fun r w' => r = .returned (.int .u64 (sgB p a b)) ∧ Tidy w w' := by
  have hv : ([.int .u64 p, .int .u64 a, .int .u64 b].all (lt 0)) = true := rfl
  have T := tabH_ok conRA_ok hcS_ok
  have e1 : IntKind.u64.wrap (p + 9223372036854775808) = sS true p := by
    rw [wrapU' ⟨by omega, by omega⟩]; simp only [sS, if_true]; omega
  have e0 : p = sS false p := by simp [sS]
  unfold sgB prN
  by_cases sa : a ≥ 9223372036854775808
  · have na : sgn a = true := decide_eq_true sa
    by_cases sb : b ≥ 9223372036854775808
    · have nb : sgn b = true := decide_eq_true sb
      rw [na, nb, show (true != true) = false from rfl, ← e0]
      exact fits_calls T (rs_tt p a b) (okCons (decide_eq_true sb) (okL1 (decide_eq_true sa))) hv (by rfl) w
    · have nb : sgn b = false := decide_eq_false sb
      rw [na, nb, show (true != false) = true from rfl, ← e1]
      exact fits_calls T (rs_tf p a b) (okCons (decide_eq_false sb) (okL1 (decide_eq_true sa))) hv (by rfl) w
  · have na : sgn a = false := decide_eq_false sa
    by_cases sb : b ≥ 9223372036854775808
    · have nb : sgn b = true := decide_eq_true sb
      rw [na, nb, show (false != true) = true from rfl, ← e1]
      exact fits_calls T (rs_ft p a b) (okCons (decide_eq_true sb) (okL1 (decide_eq_false sa))) hv (by rfl) w
    · have nb : sgn b = false := decide_eq_false sb
      rw [na, nb, show (false != false) = false from rfl, ← e0]
      exact fits_calls T (rs_ff p a b) (okCons (decide_eq_false sb) (okL1 (decide_eq_false sa))) hv (by rfl) w
def gRsg : Ans := fun vals s =>
  match vals with
  | [.int .u64 p, .int .u64 a, .int .u64 b] => some (.int .u64 (sgB p a b), s, [(decide (0 ≤ p ∧ p < 9223372036854775808), true)])
  | _ => none
theorem gRsg_ok : AnsOk 56 gRsg := by
  intro vals s v s' lg h hl w
  unfold gRsg at h
  split at h
  · cases h
    exact rsgn_calls _ _ _ (of_decide_eq_true (hl _ (List.mem_singleton.2 rfl))) w
  · cases h
def conRB : Con := alt 55 (gUUb badB) (alt 56 gRsg conRA)
theorem conRB_ok : ConOk conRB := alt_ok Tryz.func55 rfl (gUUb_ok rbad_calls) (alt_ok Tryz.func56 rfl gRsg_ok conRA_ok)
def hcM : Hc := altH 59 gUmul hcS
theorem hcM_ok : HcOk hcM := altH_ok Tryz.func59 rfl gUmul_ok hcS_ok
end Go.Proofs.YtjkgnbdeklploaaGreatDoor
namespace Go.Proofs.YtjkgnbdeklploaaGreatDoor
open Go.KRun Go.Nt Go.Wd Go.Pt Go.Rn
set_option maxRecDepth 100000
set_option linter.unusedVariables false
theorem ex6_body : Tryz.f57.body = some (cBody Tryz.f57) := by kernel_rfl
def hX5 (a b : Int) : Hp := ⟨5, [bOf (sgn b) (xp b) (sOf 2 (sg b).toNat), bOf (sgn a) (xp a) (sOf 1 (sg a).toNat), (wU (d16 (sg b).toNat), tU), (wU (d16 (sg a).toNat), tU), bOf false 0 nilS]⟩
def vX (a b : Int) : Nat := vO (hX5 a b) (adSu 1 0) (d16 (sg a).toNat).length * vO (hX5 a b) (adSu 2 0) (d16 (sg b).toNat).length
theorem ex6_go (a b : Int) : GoesT (evC (tabH Tryz.prog extY conPt hcM) 200 false (cBody Tryz.f57) ([.int .u64 a, .int .u64 b] ++ List.replicate 25 undef, ⟨0, []⟩, []) ⟨[], [], []⟩) 5 22 (some none) [.int .u64 a, .int .u64 b, .tuple #[], .tuple #[], .pointer (some ⟨0, 0, none⟩)] ⟨6, [(wU (d16 (vX a b)), tU), bOf (sgn b) (xp b) (sOf 2 (sg b).toNat), bOf (sgn a) (xp a) (sOf 1 (sg a).toNat), (wU (d16 (sg b).toNat), tU), (wU (d16 (sg a).toNat), tU), bOf (prN a b) (IntKind.i64.wrap (xp a + xp b)) (sOf 5 (vX a b))]⟩ [(okMu (hX5 a b) (adSu 1 0) (adSu 2 0) (d16 (sg a).toNat).length (d16 (sg a).toNat).length (d16 (sg b).toNat).length (d16 (sg b).toNat).length, true), lU b, lU a] := ⟨by kernel_rfl, by kernel_rfl, by kernel_rfl⟩
theorem len4 (p : Int) : (d16 (sg p).toNat).length ≤ 4 := by
  have := sg_lt p
  refine d16_len (k := 4) ?_
  have e : (2 : Nat) ^ (16 * 4) = 18446744073709551616 := rfl
  omega
theorem vX_eq (a b : Int) : vX a b = prV a b := by
  have h1 : (hX5 a b).blk? 1 = some (wU (d16 (sg a).toNat), tU) := rfl
  have h2 : (hX5 a b).blk? 2 = some (wU (d16 (sg b).toNat), tU) := rfl
  unfold vX prV
  rw [vO_ad h1, vO_ad h2]
theorem okMu_pat (a b : Int) : okMu (hX5 a b) (adSu 1 0) (adSu 2 0) (d16 (sg a).toNat).length (d16 (sg a).toNat).length (d16 (sg b).toNat).length (d16 (sg b).toNat).length = true := by
  have h1 : (hX5 a b).blk? 1 = some (wU (d16 (sg a).toNat), tU) := rfl
  have h2 : (hX5 a b).blk? 2 = some (wU (d16 (sg b).toNat), tU) := rfl
  have la := len4 a
  have lb := len4 b
  unfold okMu adSu
  rw [rowP_d16 h1 (by omega), dgB_d16 h1, rowP_d16 h2 (by omega), dgB_d16 h2, blt_iff.2 (by omega)]
  rfl
def gXx : AnsH := fun vals h s =>
  match vals with
  | [.int .u64 a, .int .u64 b] => some (vRN (prN a b) (prE a b) (sOf h.n (prV a b)), h.push (wU (d16 (prV a b))) tU, s, [(decide (U a ∧ U b), true)])
  | _ => none
theorem gXx_ok : AnsHOk 57 gXx := by
  intro vals h s v h' s' lg hg hl m B w E hv
  unfold gXx at hg
  split at hg
  · rename_i a b
    cases hg
    obtain ⟨q1, q2⟩ := of_decide_eq_true (hl _ (List.mem_singleton.2 rfl))
    have hE := prE_bd a b
    have e1 : IntKind.i64.wrap (xp a + xp b) = prE a b := wrapI' ⟨by unfold prE at hE; omega, by unfold prE at hE; omega⟩
    have hr : RunsW (tabH Tryz.prog extY conPt hcM) (cBody Tryz.f57) ([.int .u64 a, .int .u64 b] ++ List.replicate 25 undef, ⟨0, []⟩, []) fun e z => (e = none ∨ e = some none) ∧ ∃ k, resS Tryz.prog Tryz.f57 z.1 z.2.1 = some (vRN (prN a b) (prE a b) (sOf k (prV a b))) ∧ ∃ r, z.2.1.blk? k = some (wU (d16 (prV a b)) ++ r, tU) := by
      have hg := ex6_go a b
      rw [e1, vX_eq] at hg
      refine (goesT_runsW (tabH_ok conPt_ok hcM_ok) hg (okCons (okMu_pat a b) (okCons (decide_eq_true q2) (okL1 (decide_eq_true q1))))).mono fun e z he => ?_
      obtain ⟨rfl, ⟨g, e1⟩, e2⟩ := he
      exact ⟨.inr rfl, 5, by rw [e1, e2]; rfl, [], by rw [e2, List.append_nil]; rfl⟩
    have := row_calls2 (T := tabH Tryz.prog extY conPt hcM) Tryz.func57 ex6_body (h0 := ⟨0, []⟩) ⟨rfl, fun b x hx => by have : b < 0 := Hp.blk_lt hx; omega⟩ (vals := [.int .u64 a, .int .u64 b]) (fun v hv => by
      simp only [List.mem_cons, List.not_mem_nil, or_false] at hv
      rcases hv with h1 | h1 <;> rw [h1] <;> rfl) (v := fun k => vRN (prN a b) (prE a b) (sOf k (prV a b))) (wU_lt _) (by kernel_rfl) hr (fun k => by simp [oc, oc2, oc1, sOf, sl, vRN]) E (s := fun i => i) (fun i x hx _ => by have : i < 0 := Hp.blk_lt hx; omega) (fun k => by simp [rn, rn2, rn1, sOf, sl, vRN])
    exact this
  · cases hg
def hcX : Hc := altH 57 gXx hcS
theorem hcX_ok : HcOk hcX := altH_ok Tryz.func57 rfl gXx_ok hcS_ok
end Go.Proofs.YtjkgnbdeklploaaGreatDoor
namespace Go.Proofs.YtjkgnbdeklploaaGreatDoor
open Go.KRun Go.Nt Go.Wd Go.Pt Go.Rn
def hM2 (a b c : Int) : Hp := ⟨2, [(wU (d16 (sg c).toNat), tU), (wU (d16 (prV a b)), tU)]⟩
def sM (a b c : Int) : Int := smH (hM2 a b c) (prN a b) (sgn c) (prE a b) (xp c) 0 0 (d16 (prV a b)).length 1 0 (d16 (sg c).toNat).length
def lM (a b c : Int) : Int := lowS (prE a b) (xp c) (d16 (prV a b)).length (d16 (sg c).toNat).length
def hM3f (a b c : Int) : Hp := nxt (hM2 a b c) (sM a b c).natAbs
def nM (m a b c : Int) : Bool := sgS m (prN a b) (sgn c) (sM a b c)
end Go.Proofs.YtjkgnbdeklploaaGreatDoor
