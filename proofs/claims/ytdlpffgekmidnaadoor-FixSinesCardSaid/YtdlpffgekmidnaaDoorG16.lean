/-
  ConVH, ConVM, ConVU, FiI, FiJ, FiK, Asn
-/
import Derived.Test.YtdlpffgekmidnaaDoorG15
import Derived.WalkKit
import Derived.LaidEql
import Derived.Stop.Asserts
import Derived.RowKitTokens
namespace Go.Proofs.YtdlpffgekmidnaaDoor
open Go.KRun Go.Nt
set_option maxRecDepth 100000
set_option linter.unusedVariables false
theorem Runs.next {T : Tab} {c1 c2 : Code} {x : Lf} {front : List Value} {n : Nat} {h : Hp} {P : Ex → Lf → Prop} (h1 : Runs T c1 x fun e y => e = none ∧ (∃ g, y.1 = front ++ tl n g) ∧ y.2.1 = h) (h2 : ∀ g s, Runs T c2 (front ++ tl n g, h, s) P) : Runs T (.seq c1 c2) x P := by
  refine Runs.seq h1 (fun y hy => ?_) (fun e y hy => by cases hy.1)
  obtain ⟨_, ⟨g, e1⟩, e2⟩ := hy
  obtain ⟨t, hh, s⟩ := y
  simp only at e1 e2
  subst e1 e2
  exact h2 g s
theorem wU_setM (O : List Int) (j : Nat) (v : Int) : (wU O).set j (.int .u32 v) = wU (O.set j v) := by unfold wU; rw [List.map_set]
theorem wrap64M {n : Int} (h0 : 0 ≤ n) (h1 : n < 18446744073709551616) : IntKind.u64.wrap n = n := by simp [IntKind.wrap, IntKind.bits, IntKind.signed]; omega
theorem getD_of {O : List Int} {j : Nat} (h : j < O.length) : (wU O)[0 + j * 1]? = some (.int .u32 (O.getD j 0)) := by
  rw [Nat.zero_add, Nat.mul_one]
  unfold wU
  rw [List.getElem?_map, List.getElem?_eq_getElem h]
  simp [List.getD, List.getElem?_eq_getElem h]
theorem smallC_of {n : Nat} (h : n < 1000000) : smallC n = true := by
  unfold smallC
  exact blt_iff.2 (by have : dead = 4611686018427387904 := rfl; omega)
theorem nat_dg {x : Int} (h : Dg 65536 x) : ∃ p : Nat, x = (p : Int) ∧ p < 65536 := ⟨x.toNat, by have := h.1; omega, by have := h.1; have := h.2; omega⟩
section
variable {la lb : List Value} {o c o' c' : Nat} {A B : List Int}
def mSt (o n c o' n' c' z : Nat) (la lb : List Value) (O : List Int) (i : Nat) (v7 v8 : Value) (Y : Lf) : Prop := (∃ g, Y.1 = mFr o n c o' n' c' z (.int .i64 ((i : Nat) : Int)) v7 v8 ++ tl 59 g) ∧ Y.2.1 = hM3 (wU O) lb la
def mOk (z i n' : Nat) (O : List Int) : Prop := O.length = z ∧ (∀ x ∈ O, Dg 65536 x) ∧ ∀ j, i + n' ≤ j → O.getD j 0 = 0
def mIn (o c o' c' : Nat) (la lb : List Value) (A B : List Int) (i V : Nat) (m : Nat) (Y : Lf) : Prop :=
  ∃ k O c7, m = B.length - k ∧ k ≤ B.length ∧ mOk (A.length + B.length) i B.length O ∧ c7 < 65536 ∧ vb 65536 O + c7 * 65536 ^ (i + k) = V + (A.getD i 0).toNat * vb 65536 (B.take k) * 65536 ^ i ∧ mSt o A.length c o' B.length c' (A.length + B.length) la lb O i (.int .u64 ((c7 : Nat) : Int)) (.int .i64 ((k : Nat) : Int)) Y
def mFi (o c o' c' : Nat) (la lb : List Value) (A B : List Int) (i V : Nat) (Y : Lf) : Prop :=
  ∃ O c7 v8, mOk (A.length + B.length) i B.length O ∧ c7 < 65536 ∧ vb 65536 O + c7 * 65536 ^ (i + B.length) = V + (A.getD i 0).toNat * vb 65536 B * 65536 ^ i ∧ mSt o A.length c o' B.length c' (A.length + B.length) la lb O i (.int .u64 ((c7 : Nat) : Int)) v8 Y
theorem set_mOk {z i n' : Nat} {O : List Int} (h : mOk z i n' O) {j : Nat} (hj : j < i + n') {v : Int} (hv : ∀ x ∈ O.set j v, Dg 65536 x) : mOk z i n' (O.set j v) := by
  refine ⟨by rw [List.length_set]; exact h.1, hv, fun t ht => ?_⟩
  have := h.2.2 t ht
  simp only [List.getD] at *
  rw [List.getElem?_set_ne (by omega)]
  exact this
theorem umul_inner (rA : Row la o A) (rB : Row lb o' B) (dA : ∀ x ∈ A, Dg 65536 x) (dB : ∀ x ∈ B, Dg 65536 x) (hz : A.length + B.length < 1000000) {i V : Nat} (hi : i < A.length) {Y0 : Lf} (h0 : mIn o c o' c' la lb A B i V B.length Y0) :
    Runs (tabH Tryd.prog extY conN hcV) (.block 2 (.loop (muL Tryd.f58))) Y0 fun e Y => match e with | none => mFi o c o' c' la lb A B i V Y | some none => False | some (some _) => False := by
  refine Runs.forLoop (P := mFi o c o' c' la lb A B i V) (R := fun _ => False) (mIn o c o' c' la lb A B i V) ?_ (n := B.length) h0
  rintro m ⟨t, h', s⟩ ⟨k, O, c7, hm, hk, hO, hc, hval, ⟨g, ht⟩, hh⟩
  simp only at ht hh
  subst ht hh
  by_cases hlt : k < B.length
  · have hj : i + k < O.length := by rw [hO.1]; omega
    obtain ⟨p, ep, hp⟩ := nat_dg (at_dg dA i)
    obtain ⟨q, eq, hq⟩ := nat_dg (at_dg dB k)
    obtain ⟨d, ed, hd⟩ := nat_dg (at_dg hO.2.1 (i + k))
    have eij : ijM i k = ((i + k : Nat) : Int) := by unfold ijM; rw [wrapI (by omega) (by omega)]; omega
    have hpq : p * q ≤ 65535 * 65535 := Nat.mul_le_mul (by omega) (by omega)
    have epq : (p : Int) * (q : Int) = ((p * q : Nat) : Int) := by simp
    have eT : tM c7 d p q = ((c7 + d + p * q : Nat) : Int) := by
      unfold tM
      rw [wrap64M (n := (d : Int)) (by omega) (by omega), wrap64M (n := (p : Int)) (by omega) (by omega), wrap64M (n := (q : Int)) (by omega) (by omega), epq, wrap64M (n := ((p * q : Nat) : Int)) (by omega) (by omega), wrap64M (n := (c7 : Int) + (d : Int)) (by omega) (by omega), wrap64M (by omega) (by omega)]
      omega
    have e1 : IntKind.u64.wrap ((tM c7 d p q).tdiv 65536) = (((c7 + d + p * q) / 65536 : Nat) : Int) := by
      rw [eT, Int.tdiv_eq_ediv_of_nonneg (by omega), wrap64M (by omega) (by omega)]
      omega
    have e2 : IntKind.u32.wrap ((tM c7 d p q).tmod 65536) = (((c7 + d + p * q) % 65536 : Nat) : Int) := by
      rw [eT, Int.tmod_eq_emod_of_nonneg (by omega), wrap32 (by omega) (by omega)]
      omega
    have e3 : IntKind.i64.wrap ((k : Int) + 1) = ((k + 1 : Nat) : Int) := by rw [wrapI (by omega) (by omega)]; omega
    have hstep := mul_step hj hO.2.1 hc hp hq
    rw [ed, Int.toNat_natCast] at hstep
    obtain ⟨s1, s2, s3⟩ := hstep
    have hw := mu_in o A.length c o' B.length c' (A.length + B.length) i c7 k d p q undef undef (wU O) lb la g
    have lg : okLog [stM (wU O) (ijM i k), inM (ijM i k) (A.length + B.length), d65, ceM lb o' k q, inM k B.length, ceM la o i p, inM i A.length, ceM (wU O) 0 (ijM i k) d, inM (ijM i k) (A.length + B.length), (decide ((k : Int) < ((B.length : Nat) : Int)), true)] := by
      have g1 : decide (0 + (ijM i k).toNat * 1 < (wU O).length) = true := decide_eq_true (by rw [eij, Int.toNat_natCast, wU_len]; omega)
      have g2 : decide (0 ≤ ijM i k ∧ ijM i k < ((A.length + B.length : Nat) : Int)) = true := decide_eq_true (by rw [eij]; omega)
      have g3 : cellIs (lb[o' + (k : Int).toNat * 1]?) (.int .u32 q) = true := by rw [Int.toNat_natCast, Nat.mul_one, rB.cell hlt, eq]; simp [cellIs]
      have g4 : decide (0 ≤ (k : Int) ∧ (k : Int) < ((B.length : Nat) : Int)) = true := decide_eq_true (by omega)
      have g5 : cellIs (la[o + (i : Int).toNat * 1]?) (.int .u32 p) = true := by rw [Int.toNat_natCast, Nat.mul_one, rA.cell hi, ep]; simp [cellIs]
      have g6 : decide (0 ≤ (i : Int) ∧ (i : Int) < ((A.length : Nat) : Int)) = true := decide_eq_true (by omega)
      have g7 : cellIs ((wU O)[0 + (ijM i k).toNat * 1]?) (.int .u32 d) = true := by rw [eij, Int.toNat_natCast, getD_of hj, ed]; simp [cellIs]
      exact okTwo g1 (okTwo g2 (okTwo rfl (okTwo g3 (okTwo g4 (okTwo g5 (okTwo g6 (okTwo g7 (okTwo g2 (okOne (decide_eq_true (by omega)))))))))))
    rw [e1, e2, e3, eij, Int.toNat_natCast, Nat.zero_add, Nat.mul_one, wU_setM] at hw
    refine (goesT_runs (tabH_ok conN_ok hcV_ok) hw (by rw [← Int.toNat_natCast (i + k), ← eij] at *; exact lg)).mono fun e z hz => ?_
    obtain ⟨rfl, z1, z2⟩ := hz
    refine ⟨B.length - (k + 1), by omega, k + 1, O.set (i + k) (((c7 + d + p * q) % 65536 : Nat) : Int), (c7 + d + p * q) / 65536, rfl, by omega, set_mOk hO (by omega) s3, s2, ?_, z1, z2⟩
    rw [vb_take, Nat.mul_add, Nat.add_mul, eq, Int.toNat_natCast, ep, Int.toNat_natCast]
    rw [ep, Int.toNat_natCast] at hval
    have x1 : p * (65536 ^ k * q) * 65536 ^ i = p * q * 65536 ^ (i + k) := by rw [Nat.pow_add, Nat.mul_comm (65536 ^ k) q, ← Nat.mul_assoc, Nat.mul_assoc (p * q), Nat.mul_comm (65536 ^ k)]
    rw [x1]
    have x2 : i + (k + 1) = i + k + 1 := by omega
    rw [x2]
    omega
  · have hkl : k = B.length := by omega
    subst hkl
    refine (goesT_runs (tabH_ok conN_ok hcV_ok) (mu_out o A.length c o' B.length c' (A.length + B.length) i c7 ((B.length : Nat) : Int) 0 0 0 undef undef (wU O) lb la g) (okOne (decide_eq_false (by omega)))).mono fun e z hz => ?_
    obtain ⟨rfl, z1, z2⟩ := hz
    rw [List.take_length] at hval
    exact ⟨rfl, O, c7, _, hO, hc, hval, z1, z2⟩
theorem blk1 {T : Tab} {c : Code} {id : Nat} {x : Lf} {P : Lf → Prop} (h : Runs T c x fun e y => e = none ∧ P y) : Runs T (.block id c) x fun e y => e = none ∧ P y :=
  Runs.block h (fun y hy => hy) (fun y hy => by cases hy.1) (fun y hy => by cases hy.1) (fun id' y _ hy => by cases hy.1)
def mOu (o c o' c' : Nat) (la lb : List Value) (A B : List Int) (i : Nat) (Y : Lf) : Prop :=
  ∃ O v7 v8, mOk (A.length + B.length) i B.length O ∧ vb 65536 O = vb 65536 (A.take i) * vb 65536 B ∧ mSt o A.length c o' B.length c' (A.length + B.length) la lb O i v7 v8 Y
theorem umul_round (rA : Row la o A) (rB : Row lb o' B) (dA : ∀ x ∈ A, Dg 65536 x) (dB : ∀ x ∈ B, Dg 65536 x) (hz : A.length + B.length < 1000000) {i : Nat} (hi : i < A.length) {Y0 : Lf} (h0 : mOu o c o' c' la lb A B i Y0) :
    Runs (tabH Tryd.prog extY conN hcV) (muO Tryd.f58) Y0 fun e Y => e = none ∧ mOu o c o' c' la lb A B (i + 1) Y := by
  obtain ⟨O, v7, v8, hO, hval, ⟨g, ht⟩, hh⟩ := h0
  obtain ⟨t, h', s⟩ := Y0
  simp only at ht hh
  subst ht hh
  have hT := tabH_ok conN_ok hcV_ok
  rw [umul_out]
  refine Runs.next (goesT_runs hT (mu_h1 o A.length c o' B.length c' (A.length + B.length) i 0 0 0 0 0 v7 v8 (wU O) lb la g) (okOne (decide_eq_true (by omega)))) fun g s => ?_
  refine Runs.seq (P1 := fun e Y => e = none ∧ ∃ O v7 v8, mOk (A.length + B.length) (i + 1) B.length O ∧ vb 65536 O = vb 65536 (A.take (i + 1)) * vb 65536 B ∧ mSt o A.length c o' B.length c' (A.length + B.length) la lb O i v7 v8 Y) (blk1 ?_) ?_ (fun e y hy => by cases hy.1)
  · rw [umul_row]
    refine Runs.next (goesT_runs hT (mu_r5 o A.length c o' B.length c' (A.length + B.length) i 0 0 0 0 0 v7 v8 (wU O) lb la g) (fun _ h => by cases h)) fun g s => ?_
    refine Runs.seq (P1 := fun e Y => e = none ∧ mFi o c o' c' la lb A B i (vb 65536 O) Y) ?_ ?_ (fun e y hy => by cases hy.1)
    · refine Runs.next (goesT_runs hT (mu_r6 o A.length c o' B.length c' (A.length + B.length) i 0 0 0 0 0 (.int .u64 0) v8 (wU O) lb la g) (fun _ h => by cases h)) fun g s => ?_
      refine (umul_inner rA rB dA dB hz hi (V := vb 65536 O) ⟨0, O, 0, by omega, by omega, hO, by omega, ?_, ⟨g, rfl⟩, rfl⟩).mono fun e Y hY => ?_
      · simp [vb]
      · match e, hY with
        | none, hY => exact ⟨rfl, hY⟩
        | some none, hY => exact hY.elim
        | some (some _), hY => exact hY.elim
    · rintro ⟨t, h', s⟩ ⟨_, O', c7, w8, hO', hc7, hv', ⟨g, ht⟩, hh⟩
      simp only at ht hh
      subst ht hh
      have hj : i + B.length < O'.length := by rw [hO'.1]; omega
      have eij : ijM i ((B.length : Nat) : Int) = ((i + B.length : Nat) : Int) := by unfold ijM; rw [wrapI (by omega) (by omega)]; omega
      have e1 : IntKind.u32.wrap ((c7 : Nat) : Int) = ((c7 : Nat) : Int) := wrap32 (by omega) (by omega)
      have hw := mu_r12 o A.length c o' B.length c' (A.length + B.length) i c7 0 0 0 0 undef w8 (wU O') lb la g
      have g1 : decide (0 + (ijM i ((B.length : Nat) : Int)).toNat * 1 < (wU O').length) = true := decide_eq_true (by rw [eij, Int.toNat_natCast, wU_len]; omega)
      have g2 : decide (0 ≤ ijM i ((B.length : Nat) : Int) ∧ ijM i ((B.length : Nat) : Int) < ((A.length + B.length : Nat) : Int)) = true := decide_eq_true (by rw [eij]; omega)
      have r := goesT_runs (s0 := s) hT hw (okTwo g1 (okOne g2))
      rw [e1, eij, Int.toNat_natCast, Nat.zero_add, Nat.mul_one, wU_setM] at r
      refine r.mono fun e z hz => ?_
      obtain ⟨rfl, z1, z2⟩ := hz
      have hdg : ∀ x ∈ O'.set (i + B.length) ((c7 : Nat) : Int), Dg 65536 x := set_dg hO'.2.1 ⟨by omega, by omega⟩ _
      refine ⟨rfl, O'.set (i + B.length) ((c7 : Nat) : Int), _, _, ⟨by rw [List.length_set]; exact hO'.1, hdg, fun j hj' => ?_⟩, ?_, z1, z2⟩
      · have := hO'.2.2 j (by omega)
        simp only [List.getD] at *
        rw [List.getElem?_set_ne (by omega)]
        exact this
      · have hs := vb_set (b := 65536) hj ((c7 : Nat) : Int)
        rw [hO'.2.2 (i + B.length) (Nat.le_refl _), Int.toNat_natCast] at hs
        rw [vb_take, Nat.add_mul, ← hval]
        have x1 : 65536 ^ i * (A.getD i 0).toNat * vb 65536 B = (A.getD i 0).toNat * vb 65536 B * 65536 ^ i := by rw [Nat.mul_assoc, Nat.mul_comm]
        rw [x1]
        have x2 : c7 * 65536 ^ (i + B.length) = 65536 ^ (i + B.length) * c7 := Nat.mul_comm _ _
        have x3 : (65536 : Nat) ^ (i + B.length) * (0 : Int).toNat = 0 := by simp
        omega
  · rintro ⟨t, h', s⟩ ⟨_, O', w7, w8, hO', hv', ⟨g, ht⟩, hh⟩
    simp only at ht hh
    subst ht hh
    have e3 : IntKind.i64.wrap ((i : Int) + 1) = ((i + 1 : Nat) : Int) := by rw [wrapI (by omega) (by omega)]; omega
    have hw := mu_r4 o A.length c o' B.length c' (A.length + B.length) i 0 0 0 0 0 w7 w8 (wU O') lb la g
    rw [e3] at hw
    refine (goesT_runs hT hw (fun _ h => by cases h)).mono fun e z hz => ?_
    obtain ⟨rfl, z1, z2⟩ := hz
    exact ⟨rfl, O', w7, w8, hO', hv', z1, z2⟩
theorem umul_loop (rA : Row la o A) (rB : Row lb o' B) (dA : ∀ x ∈ A, Dg 65536 x) (dB : ∀ x ∈ B, Dg 65536 x) (hz : A.length + B.length < 1000000) {Y0 : Lf} (h0 : mOu o c o' c' la lb A B 0 Y0) :
    Runs (tabH Tryd.prog extY conN hcV) (.block 0 (.loop (muO Tryd.f58))) Y0 fun e Y => match e with | none => mOu o c o' c' la lb A B A.length Y | some none => False | some (some _) => False := by
  refine Runs.forLoop (P := mOu o c o' c' la lb A B A.length) (R := fun _ => False) (fun m Y => ∃ i, m = A.length - i ∧ i ≤ A.length ∧ mOu o c o' c' la lb A B i Y) ?_ (n := A.length) ⟨0, by omega, by omega, h0⟩
  rintro m Y ⟨i, hm, hi, hY⟩
  by_cases hlt : i < A.length
  · refine (umul_round rA rB dA dB hz hlt hY).mono fun e z hz' => ?_
    obtain ⟨rfl, z1⟩ := hz'
    exact ⟨A.length - (i + 1), by omega, i + 1, rfl, by omega, z1⟩
  · have hil : i = A.length := by omega
    subst hil
    obtain ⟨O, v7, v8, hO, hval, ⟨g, ht⟩, hh⟩ := hY
    obtain ⟨t, h', s⟩ := Y
    simp only at ht hh
    subst ht hh
    rw [umul_out]
    refine Runs.seq (goesT_runs (tabH_ok conN_ok hcV_ok) (mu_h0 o A.length c o' B.length c' (A.length + B.length) ((A.length : Nat) : Int) 0 0 0 0 0 v7 v8 (wU O) lb la g) (okOne (decide_eq_false (by omega)))) (fun y hy => by cases hy.1) (fun e y hy => ?_)
    obtain ⟨e1, z1, z2⟩ := hy
    cases e1
    exact ⟨rfl, O, v7, v8, hO, hval, z1, z2⟩
theorem umul_runs (rA : Row la o A) (rB : Row lb o' B) (dA : ∀ x ∈ A, Dg 65536 x) (dB : ∀ x ∈ B, Dg 65536 x) (hz : A.length + B.length < 1000000) :
    Runs (tabH Tryd.prog extY conN hcV) (seqs (muPr Tryd.f58) (.seq (.seq (cFst (muB Tryd.f58)) (.block 0 (.loop (muO Tryd.f58)))) (muE Tryd.f58))) ([sl 0 o A.length c, sl 1 o' B.length c'] ++ List.replicate 66 undef, h2 la lb, []) fun e z => (e = none ∨ e = some none) ∧ resS Tryd.prog Tryd.f58 z.1 z.2.1 = some (sl 2 0 (d16 (vb 65536 A * vb 65536 B)).length (d16 (vb 65536 A * vb 65536 B)).length) ∧ ∃ r, z.2.1.blk? 2 = some (wU (d16 (vb 65536 A * vb 65536 B)) ++ r, tU) := by
  have hT := tabH_ok conN_ok hcV_ok
  have ez : zM A.length B.length = ((A.length + B.length : Nat) : Int) := by unfold zM; rw [wrapI (by omega) (by omega)]; omega
  have hp := mu_pre o A.length c o' B.length c' la lb
  have mk : okMakeB 4 (zM A.length B.length) (zM A.length B.length) = true := by unfold okMakeB; rw [ez]; exact decide_eq_true (by omega)
  refine goesT_list hT hp (okOne mk) fun g => ?_
  rw [ez, Int.toNat_natCast]
  have ew : List.replicate (A.length + B.length) (Value.int .u32 0) = wU (List.replicate (A.length + B.length) 0) := by unfold wU; rw [List.map_replicate]
  rw [ew]
  have hrep : mOk (A.length + B.length) 0 B.length (List.replicate (A.length + B.length) (0 : Int)) := by
    refine ⟨by simp, fun x hx => ?_, fun j _ => ?_⟩
    · rw [List.eq_of_mem_replicate hx]; exact ⟨by omega, by omega⟩
    · simp only [List.getD, List.getElem?_replicate]
      split <;> rfl
  have hv0 : ∀ n : Nat, vb 65536 (List.replicate n (0 : Int)) = 0 := fun n => by
    induction n with
    | zero => rfl
    | succ n ih => rw [List.replicate_succ]; simp only [vb, ih]; rfl
  refine Runs.seq (P1 := fun e Y => e = none ∧ mOu o c o' c' la lb A B A.length Y) ?_ ?_ (fun e y hy => by cases hy.1)
  · refine Runs.next (goesT_runs hT (mu_r2 (sl 0 o A.length c) (sl 1 o' B.length c') (sl 2 0 (A.length + B.length) (A.length + B.length)) _ g) (fun _ h => by cases h)) fun g s => ?_
    refine (umul_loop rA rB dA dB hz ⟨List.replicate (A.length + B.length) 0, _, _, hrep, by rw [hv0]; simp [vb], ⟨g, rfl⟩, rfl⟩).mono fun e Y hY => ?_
    match e, hY with
    | none, hY => exact ⟨rfl, hY⟩
    | some none, hY => exact hY.elim
    | some (some _), hY => exact hY.elim
  · rintro ⟨t, h', s⟩ ⟨_, O, v7, v8, hO, hval, ⟨g, ht⟩, hh⟩
    simp only at ht hh
    subst ht hh
    rw [List.take_length] at hval
    have hl := hO.1
    have hrow : rowC tU (wU O) 0 (A.length + B.length) (A.length + B.length) = true := by
      have := rowC_wU (L := O) (fun x hx => ⟨(hO.2.1 x hx).1, by have := (hO.2.1 x hx).2; omega⟩) (by rw [hl]; omega) (c := A.length + B.length) (by rw [hl]; unfold capOk; simp; exact .inl (smallC_of (by omega)))
      rw [hl] at this
      exact this
    have ec : cutI (wU O) 0 (A.length + B.length) = O := by
      have := cut_wU O
      rw [hl] at this
      exact this
    have et : trimN O = (d16 (vb 65536 A * vb 65536 B)).length := by
      rw [trim_len (by omega) hO.2.1, hval]
      rfl
    refine (goesT_runs hT (mu_end o A.length c o' B.length c' (A.length + B.length) ((A.length : Nat) : Int) 0 0 0 0 0 v7 v8 (wU O) lb la g) (okOne hrow)).mono fun e z hz' => ?_
    obtain ⟨rfl, ⟨g', e1⟩, e2⟩ := hz'
    refine ⟨.inr rfl, ?_, ?_⟩
    · rw [e1, e2, ec, et]
      rfl
    · rw [e2]
      refine ⟨wU (O.drop (trimN O)), ?_⟩
      have e3 : wU (d16 (vb 65536 A * vb 65536 B)) ++ wU (O.drop (trimN O)) = wU O := by
        unfold d16
        rw [← hval, ← take_trim (by omega) _ hO.2.1, ← wU_append, List.take_append_drop]
      rw [e3]
      rfl
end
def okMu (h : Hp) (p q : Option Addr) (n c n' c' : Nat) : Bool := rowP h p n c && dgB (rowOf h p n) && (rowP h q n' c' && dgB (rowOf h q n')) && Nat.blt (n + n') 1000000
def gUmul : AnsH := fun vals h s =>
  match vals with
  | [.slice (some ⟨b, o, none⟩) n c, .slice (some ⟨b', o', none⟩) n' c'] => mk16 (vO h (some ⟨b, o, none⟩) n * vO h (some ⟨b', o', none⟩) n') h s [(okMu h (some ⟨b, o, none⟩) (some ⟨b', o', none⟩) n c n' c', true)]
  | _ => none
theorem gUmul_ok : AnsHOk 58 gUmul := by
  intro vals h s v h' s' lg hg hl m B w E0 hv
  unfold gUmul at hg
  split at hg
  · rename_i b o n c b' o' n' c'
    unfold mk16 at hg
    cases hg
    have l3 := hl _ (List.mem_singleton.2 rfl)
    simp only [okMu, Bool.and_eq_true] at l3
    obtain ⟨⟨⟨q1, q2⟩, ⟨p1, p2⟩⟩, q4⟩ := l3
    have q2 := dgB_of q2
    have p2 := dgB_of p2
    have q4 := blt_iff.1 q4
    rcases rowP_cases q1 with ⟨h0, _⟩ | ⟨b1, o1, x, hp, hx, r1, rs, e0⟩
    · cases h0
    · cases hp
      rcases rowP_cases p1 with ⟨h0, _⟩ | ⟨b2, o2, y, hp', hy, t1, ts, f0⟩
      · cases h0
      · cases hp'
        rw [e0] at q2
        rw [f0] at p2
        obtain ⟨h1, h2', h3, h4, h5, h6, h7⟩ := rowC_of r1
        obtain ⟨k1, k2, k3, k4, k5, k6, k7⟩ := rowC_of t1
        have ev : vO h (some ⟨b, o, none⟩) n = vb 65536 (cutI x.1 o n) := by unfold vO; rw [e0]
        have ev' : vO h (some ⟨b', o', none⟩) n' = vb 65536 (cutI y.1 o' n') := by unfold vO; rw [f0]
        have r := umul_runs (c := c) (c' := c') h1 k1 q2 p2 (by rw [h2', k2]; exact q4)
        rw [h2', k2, ← ev, ← ev'] at r
        have evals : List.map (rn (pair b b')) [sl 0 o n c, sl 1 o' n' c'] = [.slice (some ⟨b, o, none⟩) n c, .slice (some ⟨b', o', none⟩) n' c'] := by
          simp [rn, rn2, rn1, sl, pair]
        have fin := row_calls1 (T := tabH Tryd.prog extY conN hcV) Tryd.func58 umul_body (rows2 h7 k7) (vals := [sl 0 o n c, sl 1 o' n' c']) (fun v hv => by
          simp only [List.mem_cons, List.not_mem_nil, or_false] at hv
          rcases hv with h1 | h1 <;> rw [h1] <;> rfl) (k := 2) (cs := wU (d16 (vO h (some ⟨b, o, none⟩) n * vO h (some ⟨b', o', none⟩) n'))) (ty := tU) (wU_lt _) (by kernel_rfl) r.w (by rfl) E0 (s := pair b b') (fitsR2 hx h5 h6 hy k5 k6)
        rw [evals] at fin
        exact fin
  · cases hg
/-! ### rows of numbers -/
theorem capS {n : Nat} (h : n < 1000000000) : capOk 0 n n = true := by
  unfold capOk
  have : smallC n = true := by unfold smallC; exact blt_iff.2 (by have : dead = 4611686018427387904 := rfl; omega)
  rw [this, Nat.ble_eq_true_of_le (Nat.le_refl n)]
  rfl
/-- what is known of the two rows -/
structure Two (la lb : List Value) (o o' c' : Nat) (A L : List Int) : Prop where
  ra : Row la o A
  rb : Row lb o' L
  dA : ∀ x ∈ A, Dg 65536 x
  cL : Canon 65536 L
  n1 : 1 ≤ L.length
  n2 : L.length < 1000000
  a1 : 1 ≤ A.length
  a2 : A.length < 1000000
  cb : rowC tR lb o' L.length c' = true
  sb : ∀ v ∈ lb, still v = true
  sa : ∀ v ∈ la, still v = true
  eb : cutI lb o' L.length = L
def hN2 (lo la : List Value) : Hp := ⟨2, [(lo, tU), (la, tR)]⟩
def mNr (o n c z : Nat) (i v7 v8 : Value) : List Value := [sl 0 o n c, nilS, undef, undef, nilS, sl 1 0 z z, i, v7, v8]
def zU (n : Nat) : List Value := List.replicate n (.int .u32 0)
theorem zU_eq (n : Nat) : zU n = wU (List.replicate n 0) := by unfold zU wU; simp
theorem trim_rep : ∀ n : Nat, trimN (List.replicate n 0) = 0
  | 0 => rfl
  | n + 1 => by
    rw [List.replicate_succ]
    simp only [trimN]
    rw [trim_rep n]
    rfl
theorem zU_cut (n : Nat) : trimN (cutI (zU n) 0 n) = 0 := by
  have h := cut_wU (List.replicate n 0)
  rw [List.length_replicate] at h
  rw [zU_eq, h, trim_rep]
theorem zU_row {n : Nat} (h : n < 1000000) : rowC tU (zU n) 0 n n = true := by
  have := rowC_wU (L := List.replicate n 0) (fun x hx => by rw [List.eq_of_mem_replicate hx]; omega) (by simp; omega) (c := n) (by simp only [List.length_replicate]; exact capS (by omega))
  rw [List.length_replicate] at this
  rw [zU_eq]
  exact this
def zL (n : Nat) : Int := IntKind.i64.wrap ((n : Int) + ((0 : Nat) : Int))
def zR (n : Nat) : Int := IntKind.i64.wrap (((0 : Nat) : Int) + (n : Int))
theorem zL_eq {n : Nat} (h : n < 1000000) : zL n = (n : Int) := by unfold zL; rw [wrapI (by omega) (by omega)]; omega
theorem zR_eq {n : Nat} (h : n < 1000000) : zR n = (n : Int) := by unfold zR; rw [wrapI (by omega) (by omega)]; omega
theorem mn_pre (o n c : Nat) (la : List Value) : GoesT (evL (tabH Tryd.prog extY conN hcV) 200 (muPr Tryd.f58) ([sl 0 o n c, nilS] ++ List.replicate 66 undef, ⟨1, [(la, tR)]⟩, [at_]) ⟨[], [], []⟩) 6 62 none [sl 0 o n c, nilS, undef, undef, nilS, sl 1 0 (zL n).toNat (zL n).toNat] (hN2 (zU (zL n).toNat) la) [(okMakeB 4 (zL n) (zL n), true)] := ⟨by kernel_rfl, by kernel_rfl, by kernel_rfl⟩
theorem mn_go (o n c z : Nat) (i : Int) (v7 v8 : Value) (lo la : List Value) (g : Nat → Value) : GoesT (evC (tabH Tryd.prog extY conN hcV) 200 false (muO Tryd.f58) (mNr o n c z (.int .i64 i) v7 v8 ++ tl 59 g, hN2 lo la, [cmp true, cmp false, at_, at_]) ⟨[], [], []⟩) 9 59 none (mNr o n c z (.int .i64 (IntKind.i64.wrap (i + 1))) (.int .u64 0) (.int .i64 0)) (hN2 (lo.set (0 + (ijM i (0 : Nat)).toNat * 1) (.int .u32 0)) la) [stM lo (ijM i (0 : Nat)), inM (ijM i (0 : Nat)) z, (decide ((0 : Int) < ((0 : Nat) : Int)), false), (decide (i < (n : Int)), true)] := ⟨by kernel_rfl, by kernel_rfl, by kernel_rfl⟩
theorem mn_out (o n c z : Nat) (i : Int) (v7 v8 : Value) (lo la : List Value) (g : Nat → Value) : GoesT (evC (tabH Tryd.prog extY conN hcV) 200 false (muO Tryd.f58) (mNr o n c z (.int .i64 i) v7 v8 ++ tl 59 g, hN2 lo la, [cmp false]) ⟨[], [], []⟩) 9 59 (some (some 0)) (mNr o n c z (.int .i64 i) v7 v8) (hN2 lo la) [(decide (i < (n : Int)), false)] := ⟨by kernel_rfl, by kernel_rfl, by kernel_rfl⟩
theorem mn_end (o n c z : Nat) (i v7 v8 : Value) (lo la : List Value) (g : Nat → Value) : GoesT (evC (tabH Tryd.prog extY conN hcV) 200 false (muE Tryd.f58) (mNr o n c z i v7 v8 ++ tl 59 g, hN2 lo la, []) ⟨[], [], []⟩) 5 63 (some none) [sl 0 o n c, nilS, undef, undef, sl 1 0 (trimN (cutI lo 0 z)) (trimN (cutI lo 0 z))] (hN2 lo la) [(rowC tU lo 0 z z, true)] := ⟨by kernel_rfl, by kernel_rfl, by kernel_rfl⟩
theorem mn_n (o n c : Nat) (la : List Value) : GoesT (evC (tabH Tryd.prog extY conN hcV) 200 false (cBody Tryd.f58) ([nilS, sl 0 o n c] ++ List.replicate 66 undef, ⟨1, [(la, tR)]⟩, [at_, cmp false]) ⟨[], [], []⟩) 5 63 (some none) [nilS, sl 0 o n c, undef, undef, sl 1 0 (trimN (cutI (zU (zR n).toNat) 0 (zR n).toNat)) (trimN (cutI (zU (zR n).toNat) 0 (zR n).toNat))] (hN2 (zU (zR n).toNat) la) [(rowC tU (zU (zR n).toNat) 0 (zR n).toNat (zR n).toNat, true), (decide ((0 : Int) < ((0 : Nat) : Int)), false), (okMakeB 4 (zR n) (zR n), true)] := ⟨by kernel_rfl, by kernel_rfl, by kernel_rfl⟩
theorem mn_nn : GoesT (evC (tabH Tryd.prog extY conN hcV) 200 false (cBody Tryd.f58) ([nilS, nilS] ++ List.replicate 66 undef, ⟨0, []⟩, [at_, cmp false]) ⟨[], [], []⟩) 5 63 (some none) [nilS, nilS, undef, undef, sl 0 0 0 0] ⟨1, [([], tU)]⟩ [(rowC tU [] 0 0 0, true), (decide ((0 : Int) < ((0 : Nat) : Int)), false), (true, true)] := ⟨by kernel_rfl, by kernel_rfl, by kernel_rfl⟩
theorem umul_cbody : Tryd.f58.body = some (cBody Tryd.f58) := by kernel_rfl
theorem mn_runs {la : List Value} {o n c : Nat} (hn : n < 1000000) :
    Runs (tabH Tryd.prog extY conN hcV) (seqs (muPr Tryd.f58) (.seq (.seq (cFst (muB Tryd.f58)) (.block 0 (.loop (muO Tryd.f58)))) (muE Tryd.f58))) ([sl 0 o n c, nilS] ++ List.replicate 66 undef, ⟨1, [(la, tR)]⟩, []) fun e y => (e = none ∨ e = some none) ∧ resS Tryd.prog Tryd.f58 y.1 y.2.1 = some (sl 1 0 0 0) ∧ y.2.1.blk? 1 = some (zU n, tU) := by
  have hT := tabH_ok conN_ok hcV_ok
  have g0 := mn_pre o n c la
  rw [zL_eq hn, Int.toNat_natCast] at g0
  refine goesT_list hT g0 (okOne (by unfold okMakeB; exact decide_eq_true (by omega))) fun g => ?_
  refine Runs.seq (P1 := fun e' y => e' = none ∧ ∃ (i v7 v8 : Value) (g : Nat → Value), y.1 = mNr o n c n i v7 v8 ++ tl 59 g ∧ y.2.1 = hN2 (zU n) la) ?_ ?_ (fun e y he => by cases he.1)
  · refine Runs.next (goesT_runs hT (mu_r2 (sl 0 o n c) nilS (sl 1 0 n n) _ g) (fun _ h => by cases h)) fun g s => ?_
    refine (Runs.forLoop (R := fun _ => False) (P := fun y => ∃ (i v7 v8 : Value) (g : Nat → Value), y.1 = mNr o n c n i v7 v8 ++ tl 59 g ∧ y.2.1 = hN2 (zU n) la)
      (fun r y => ∃ (k : Nat) (v7 v8 : Value) (g : Nat → Value), k + r = n ∧ y.1 = mNr o n c n (.int .i64 (k : Int)) v7 v8 ++ tl 59 g ∧ y.2.1 = hN2 (zU n) la)
      ?_ (n := n) ⟨0, _, _, g, by omega, rfl, rfl⟩).mono fun e' y he => ?_
    · rintro r ⟨t, h', s'⟩ ⟨k, v7, v8, g, hk, ht, hh⟩
      simp only at ht hh
      subst ht hh
      cases r with
      | zero =>
        refine (goesT_runs hT (mn_out o n c n k v7 v8 _ la g) (okOne (decide_eq_false (by omega)))).mono fun e' y he => ?_
        obtain ⟨rfl, ⟨g1, e2⟩, e3⟩ := he
        exact ⟨rfl, _, _, _, g1, e2, e3⟩
      | succ r =>
        have ei : ijM (k : Int) (0 : Nat) = (k : Int) := by unfold ijM; rw [wrapI (by omega) (by omega)]; omega
        have g1 := mn_go o n c n k v7 v8 (zU n) la g
        rw [ei] at g1
        have es : (zU n).set (0 + ((k : Int)).toNat * 1) (.int .u32 0) = zU n := by
          unfold zU
          rw [Int.toNat_natCast, Nat.zero_add, Nat.mul_one, List.set_replicate_self]
        rw [es] at g1
        refine (goesT_runs hT g1 (okTwo (by unfold stM zU; exact decide_eq_true (by simp; omega)) (okTwo (by unfold inM; exact decide_eq_true (by omega)) (okTwo (by decide) (okOne (decide_eq_true (by omega))))))).mono fun e' y he => ?_
        obtain ⟨rfl, ⟨g2, e2⟩, e3⟩ := he
        refine ⟨r, by omega, k + 1, .int .u64 0, .int .i64 0, g2, by omega, ?_, e3⟩
        rw [e2, wrapI (by omega) (by omega)]
        rfl
    · match e', he with
      | none, he => exact ⟨rfl, he⟩
      | some none, he => exact he.elim
      | some (some _), he => exact he.elim
  · rintro ⟨t, h', s'⟩ ⟨_, i, v7, v8, g, ht, hh⟩
    simp only at ht hh
    subst ht hh
    have g1 := mn_end o n c n i v7 v8 (zU n) la g
    rw [zU_cut] at g1
    refine (goesT_runs hT g1 (okOne (zU_row hn))).mono fun e' y he => ?_
    obtain ⟨rfl, ⟨g2, e2⟩, e3⟩ := he
    refine ⟨.inr rfl, ?_, ?_⟩
    · rw [e2, e3]; rfl
    · rw [e3]; rfl
def gUmulN : AnsH := fun vals h s =>
  match vals, s with
  | [.slice p n c, .slice q n' c'], .inr (.inl V) :: s' => mk16 V.toNat h s' [(decide (vO h p n * vO h q n' = V.toNat), true), (okMu h p q n c n' c', true)]
  | _, _ => none
theorem d16_0 : d16 0 = [] := db_zero 65536
theorem gUmulN_ok : AnsHOk 58 gUmulN := by
  intro vals h s v h' s' lg hg hl m B w E hv
  unfold gUmulN at hg
  split at hg
  · rename_i p n c q n' c' V s2
    unfold mk16 at hg
    cases hg
    have l1 := of_decide_eq_true (hl _ List.mem_cons_self)
    have l3 := hl _ (List.mem_cons_of_mem _ (List.mem_singleton.2 rfl))
    have l3' := l3
    simp only [okMu, Bool.and_eq_true] at l3
    obtain ⟨⟨⟨q1, q2⟩, ⟨p1, p2⟩⟩, q4⟩ := l3
    have q4 := blt_iff.1 q4
    rcases rowP_cases q1 with ⟨rfl, rfl, rfl, e0⟩ | ⟨b, o, x, rfl, hx, r1, rs, e0⟩
    · have hV : V.toNat = 0 := by
        rw [← l1]
        unfold vO
        rw [e0]
        simp [vb]
      rw [hV, d16_0]
      rcases rowP_cases p1 with ⟨rfl, rfl, rfl, f0⟩ | ⟨b', o', y, rfl, hy, t1, ts, f0⟩
      · have r : Runs (tabH Tryd.prog extY conN hcV) (cBody Tryd.f58) ([nilS, nilS] ++ List.replicate 66 undef, ⟨0, []⟩, []) fun e z => (e = none ∨ e = some none) ∧ resS Tryd.prog Tryd.f58 z.1 z.2.1 = some (sl 0 0 0 0) ∧ ∃ r, z.2.1.blk? 0 = some (wU [] ++ r, tU) := by
          refine (goesT_runs (tabH_ok conN_ok hcV_ok) mn_nn (okTwo (by kernel_rfl) (okTwo (by decide) (okOne rfl)))).mono fun e z he => ?_
          obtain ⟨rfl, ⟨g, e1⟩, e2⟩ := he
          exact ⟨.inr rfl, by rw [e1, e2]; rfl, [], by rw [e2]; rfl⟩
        have := row_calls1 (T := tabH Tryd.prog extY conN hcV) Tryd.func58 umul_cbody (h0 := ⟨0, []⟩) ⟨rfl, fun b x hx => by have : b < 0 := Hp.blk_lt hx; omega⟩ (vals := [nilS, nilS]) (fun v hv => by
          simp only [List.mem_cons, List.not_mem_nil, or_false] at hv
          rcases hv with rfl | rfl <;> rfl) (k := 0) (cs := wU []) (ty := tU) (wU_lt _) (by kernel_rfl) r.w (by rfl) E (s := fun i => i) (fun i x hx _ => by have : i < 0 := Hp.blk_lt hx; omega)
        exact this
      · obtain ⟨b1, b2, b3, b4, b5, b6, b7⟩ := rowC_of t1
        have g0 := mn_n o' n' c' y.1
        rw [zR_eq (by omega), Int.toNat_natCast, zU_cut] at g0
        have r : Runs (tabH Tryd.prog extY conN hcV) (cBody Tryd.f58) ([nilS, sl 0 o' n' c'] ++ List.replicate 66 undef, ⟨1, [(y.1, tR)]⟩, []) fun e z => (e = none ∨ e = some none) ∧ resS Tryd.prog Tryd.f58 z.1 z.2.1 = some (sl 1 0 0 0) ∧ ∃ r, z.2.1.blk? 1 = some (wU [] ++ r, tU) := by
          refine (goesT_runs (tabH_ok conN_ok hcV_ok) g0 (okTwo (zU_row (by omega)) (okTwo (by decide) (okOne (by unfold okMakeB; exact decide_eq_true (by omega)))))).mono fun e z he => ?_
          obtain ⟨rfl, ⟨g, e1⟩, e2⟩ := he
          exact ⟨.inr rfl, by rw [e1, e2]; rfl, zU n', by rw [e2]; rfl⟩
        have evals : List.map (rn fun _ => b') [nilS, sl 0 o' n' c'] = [.slice none 0 0, .slice (some ⟨b', o', none⟩) n' c'] := by simp [rn, rn2, rn1, sl, nilS]
        have := row_calls1 (T := tabH Tryd.prog extY conN hcV) Tryd.func58 umul_cbody (rows1 b7) (vals := [nilS, sl 0 o' n' c']) (fun v hv => by
          simp only [List.mem_cons, List.not_mem_nil, or_false] at hv
          rcases hv with rfl | rfl <;> rfl) (k := 1) (cs := wU []) (ty := tU) (wU_lt _) (by kernel_rfl) r.w (by rfl) E (s := fun _ => b') (fitsR1 hy b5 b6 rfl)
        rw [evals] at this
        exact this
    · rcases rowP_cases p1 with ⟨rfl, rfl, rfl, f0⟩ | ⟨b', o', y, rfl, hy, t1, ts, f0⟩
      · have hV : V.toNat = 0 := by
          rw [← l1]
          unfold vO
          rw [f0]
          simp [vb]
        rw [hV, d16_0]
        obtain ⟨b1, b2, b3, b4, b5, b6, b7⟩ := rowC_of r1
        have r : Runs (tabH Tryd.prog extY conN hcV) (seqs (muPr Tryd.f58) (.seq (.seq (cFst (muB Tryd.f58)) (.block 0 (.loop (muO Tryd.f58)))) (muE Tryd.f58))) ([sl 0 o n c, nilS] ++ List.replicate 66 undef, ⟨1, [(x.1, tR)]⟩, []) fun e z => (e = none ∨ e = some none) ∧ resS Tryd.prog Tryd.f58 z.1 z.2.1 = some (sl 1 0 0 0) ∧ ∃ r, z.2.1.blk? 1 = some (wU [] ++ r, tU) :=
          (mn_runs (by omega)).mono fun e z he => ⟨he.1, he.2.1, zU n, he.2.2⟩
        have evals : List.map (rn fun _ => b) [sl 0 o n c, nilS] = [.slice (some ⟨b, o, none⟩) n c, .slice none 0 0] := by simp [rn, rn2, rn1, sl, nilS]
        have := row_calls1 (T := tabH Tryd.prog extY conN hcV) Tryd.func58 umul_body (rows1 b7) (vals := [sl 0 o n c, nilS]) (fun v hv => by
          simp only [List.mem_cons, List.not_mem_nil, or_false] at hv
          rcases hv with rfl | rfl <;> rfl) (k := 1) (cs := wU []) (ty := tU) (wU_lt _) (by kernel_rfl) r.w (by rfl) E (s := fun _ => b) (fitsR1 hx b5 b6 rfl)
        rw [evals] at this
        exact this
      · rw [← l1]
        exact gUmul_ok _ h [] _ _ [] [(okMu h (some ⟨b, o, none⟩) (some ⟨b', o', none⟩) n c n' c', true)] rfl (okL1 l3') m B w E hv
  · cases hg
end Go.Proofs.YtdlpffgekmidnaaDoor
namespace Go.Proofs.YtdlpffgekmidnaaDoor
open Go.KRun Go.Nt Go.Wd
set_option maxRecDepth 100000
def okSb (h : Hp) (p q : Option Addr) (n c n' c' : Nat) : Bool := two16 h p q n c n' c' && Nat.ble (vO h q n') (vO h p n)
def gUsubT : AnsH := fun vals h s =>
  match vals, s with
  | [.slice p n c, .slice q n' c'], .inr (.inr (.inr (.inl d))) :: s' =>
    match d, s' with
    | true, .inr (.inl V) :: s2 => mk16 V.toNat h s2 [(decide (vO h p n - vO h q n' = V.toNat), true), (okSb h p q n c n' c', true), (decide (0 < n), true)]
    | false, _ => some (nilS, h, s', [(two16 h p q n c n' c', true), (decide (0 < n), false)])
    | _, _ => none
  | _, _ => none
theorem gUsubT_ok : AnsHOk 50 gUsubT := by
  intro vals h s v h' s' lg hg hl
  unfold gUsubT at hg
  split at hg
  · rename_i p n c q n' c' d s2
    split at hg
    · rename_i V s3
      unfold mk16 at hg
      cases hg
      obtain ⟨l1, l2⟩ := log_tlT hl
      have l1 := of_decide_eq_true l1
      refine gUsub_ok _ h [cmp true] _ _ [] _ ?_ l2
      simp only [gUsub, mk16, l1]
      rfl
    · cases hg
      exact gUsub_ok _ h [cmp false] _ _ [] _ rfl hl
    · cases hg
  · cases hg
def gUshrT : AnsH := fun vals h s =>
  match vals, s with
  | [.slice p n c, .int .i64 k], .inr (.inr (.inr (.inl d))) :: .inr (.inr (.inr (.inl e))) :: s' =>
    match d, s' with
    | true, .inr (.inl V) :: s2 => some (.tuple #[sl h.n 0 (d16 V.toNat).length (d16 V.toNat).length, .bool e], h.push (wU (d16 V.toNat)) tU, s2, [(decide (vO h p n / 2 ^ k.toNat = V.toNat), true), (decide (vO h p n % 2 ^ k.toNat ≠ 0), e), (decide (k.toNat / 16 < n), true), (okShr h p n c k, true)])
    | false, _ => some (.tuple #[nilS, .bool e], h, s', [(decide (vO h p n % 2 ^ k.toNat ≠ 0), e), (decide (k.toNat / 16 < n), false), (okShr h p n c k, true)])
    | _, _ => none
  | _, _ => none
theorem gUshrT_ok : AnsHOk 8 gUshrT := by
  intro vals h s v h' s' lg hg hl
  unfold gUshrT at hg
  split at hg
  · rename_i p n c k d e s2
    split at hg
    · rename_i V s3
      cases hg
      obtain ⟨l1, l2⟩ := log_tlT hl
      have l1 := of_decide_eq_true l1
      refine gUshr_ok _ h [cmp true, cmp e] _ _ [] _ ?_ l2
      simp only [gUshr, l1]
    · cases hg
      exact gUshr_ok _ h [cmp false, cmp e] _ _ [] _ rfl hl
    · cases hg
  · cases hg
/-- a memory: blocks that are numbers (the newest first), ahead of others -/
def hN5 (base : List (List Value × TypeId)) (l : List Nat) : Hp := ⟨l.length + base.length, l.map w16 ++ base⟩
structure N5 (h : Hp) (p : Option Addr) (n V : Nat) : Prop where
  row : rowP h p n n = true
  eq : rowOf h p n = d16 V
  len : n = (d16 V).length
  lt : n < 100000
theorem nN5 (h : Hp) : N5 h none 0 0 := ⟨rfl, by rw [d16_0]; rfl, by rw [d16_0]; rfl, by omega⟩
theorem bN5 {h : Hp} {b V : Nat} (hb : h.blk? b = some (w16 V)) (hl : (d16 V).length < 100000) : N5 h (aP16 b) (d16 V).length V := ⟨rowP_d16 hb (by omega), rowOf_d16 hb, rfl, hl⟩
theorem N5.vO {h : Hp} {p : Option Addr} {n V : Nat} (A : N5 h p n V) : vO h p n = V := by
  unfold Go.Proofs.YtdlpffgekmidnaaDoor.vO
  rw [A.eq]
  exact vb_db (by omega) V
theorem N5.dg {h : Hp} {p : Option Addr} {n V : Nat} (A : N5 h p n V) : dgB (rowOf h p n) = true := by
  rw [A.eq]
  exact dgB_mk (d16_dg V)
theorem N5.shr {h : Hp} {p : Option Addr} {n V : Nat} (A : N5 h p n V) {k : Int} (hk : 0 < k ∧ k < 4611686018427387904) : okShr h p n n k = true := by
  have := A.lt
  unfold okShr
  rw [A.row, A.dg, blt_iff.2 (by omega), decide_eq_true hk]
  rfl
theorem N5.shl {h : Hp} {p : Option Addr} {n V : Nat} (A : N5 h p n V) {k : Int} (hk : 0 ≤ k ∧ k < 100000) : okSh h p n n k = true := by
  have := A.lt
  unfold okSh
  rw [A.row, A.dg, blt_iff.2 (by omega), decide_eq_true hk.1]
  rfl
theorem N5.shlV {h : Hp} {p : Option Addr} {n V : Nat} (A : N5 h p n V) {k P : Nat} (hP : V * 2 ^ k = P) : decide (Go.Proofs.YtdlpffgekmidnaaDoor.vO h p n * 2 ^ k = P) = true := by
  rw [A.vO]
  exact decide_eq_true hP
theorem N5.shrV {h : Hp} {p : Option Addr} {n V : Nat} (A : N5 h p n V) {k P : Nat} (hP : V / 2 ^ k = P) : decide (Go.Proofs.YtdlpffgekmidnaaDoor.vO h p n / 2 ^ k = P) = true := by
  rw [A.vO]
  exact decide_eq_true hP
theorem len_iff16 (V k : Nat) : k < (d16 V).length ↔ 2 ^ (16 * k) ≤ V := by
  constructor
  · intro h
    rcases Nat.lt_or_ge V (2 ^ (16 * k)) with c | c
    · have := d16_len c
      omega
    · exact c
  · intro h
    rcases Nat.lt_or_ge k (d16 V).length with c | c
    · exact c
    · have h1 := vb_lt (b := 65536) (by omega) (d16 V) (d16_dg V)
      have h2 := Nat.pow_le_pow_right (show 0 < 65536 by omega) c
      have h3 : vb 65536 (d16 V) = V := vb_db (by omega) V
      rw [h3] at h1
      rw [← pow16] at h
      omega
def conF6 : Con := alt 17 (g2 (plain2 cmpV4)) conF5
theorem conF6_ok : ConOk conF6 := alt_ok Tryd.func17 rfl (plain2_ok cmp_calls) conF5_ok
def kX4 (x : W4) : List Value × TypeId := ([.int .u64 x.a, .int .u64 x.b, .int .u64 x.c, .int .u64 x.d], 23)
def sl4 (x : W4) : W4 := ofN (slN x)
def sh4 (x : W4) : W4 := ofN (shN x)
def cl4 (x : W4) : W4 := ofN (clN x)
def ch4 (x : W4) : W4 := ofN (chN x)
theorem lo_lt {S : Int} {n : Nat} (h : 0 ≤ S ∧ S ≤ (n : Int)) (hn : n ≤ Go.Fx.uP) : Go.Fx.lo32 S < 115792089237316195423570985008687907853269984665640564039457584007913129639936 := by
  rw [uP_is] at hn
  unfold Go.Fx.lo32
  omega
theorem hi_lt {S : Int} {n : Nat} (h : 0 ≤ S ∧ S ≤ (n : Int)) (hn : n ≤ Go.Fx.uP) : Go.Fx.hi32 S < 115792089237316195423570985008687907853269984665640564039457584007913129639936 := by
  rw [uP_is] at hn
  unfold Go.Fx.hi32
  omega
theorem ofN_lt {n : Nat} (h : n < 115792089237316195423570985008687907853269984665640564039457584007913129639936) : (ofN n).nat = n := ofN_nat (by rw [show (2 : Nat) ^ 256 = 115792089237316195423570985008687907853269984665640564039457584007913129639936 from rfl]; exact h)
theorem bds_nat {x : W4} (h : x.nat ≤ Go.Fx.uP) : (sl4 x).nat = slN x ∧ (sh4 x).nat = shN x ∧ (cl4 x).nat = clN x ∧ (ch4 x).nat = chN x ∧ slN x < 115792089237316195423570985008687907853269984665640564039457584007913129639936 ∧ shN x < 115792089237316195423570985008687907853269984665640564039457584007913129639936 ∧ clN x < 115792089237316195423570985008687907853269984665640564039457584007913129639936 ∧ chN x < 115792089237316195423570985008687907853269984665640564039457584007913129639936 := by
  have s := Go.Fx.sS_bd Go.Fx.uP_pos h 29
  have c := Go.Fx.cS_bd Go.Fx.uP_pos h 29
  have m1 : slN x < 115792089237316195423570985008687907853269984665640564039457584007913129639936 := lo_lt s h
  have m2 : shN x < 115792089237316195423570985008687907853269984665640564039457584007913129639936 := hi_lt s h
  have m3 : clN x < 115792089237316195423570985008687907853269984665640564039457584007913129639936 := lo_lt c (Nat.le_refl _)
  have m4 : chN x < 115792089237316195423570985008687907853269984665640564039457584007913129639936 := hi_lt c (Nat.le_refl _)
  exact ⟨ofN_lt m1, ofN_lt m2, ofN_lt m3, ofN_lt m4, m1, m2, m3, m4⟩
theorem cos_pos {x : W4} (h : x.nat ≤ Go.Fx.uP) : 1 ≤ clN x ∧ 1 ≤ chN x := by
  have c := (Go.Fx.cS_bd Go.Fx.uP_pos h 29).1
  have l := Go.Fx.cos_big h
  have u := uP_is
  unfold clN chN Go.Fx.lo32 Go.Fx.hi32
  generalize Go.Fx.cS Go.Fx.uP 29 x.nat = C at *
  omega
theorem sin_hi {x : W4} (h : x.nat ≤ Go.Fx.uP) : 1 ≤ shN x := by
  have s := (Go.Fx.sS_bd Go.Fx.uP_pos h 29).1
  unfold shN Go.Fx.hi32
  generalize Go.Fx.sS Go.Fx.uP 29 x.nat = C at *
  omega
theorem p528 : (2 : Nat) ^ (16 * 33) = 65536 * (115792089237316195423570985008687907853269984665640564039457584007913129639936 * 115792089237316195423570985008687907853269984665640564039457584007913129639936) := by decide +kernel
theorem sh33 {V : Nat} (h : V < 65536 * (115792089237316195423570985008687907853269984665640564039457584007913129639936 * 115792089237316195423570985008687907853269984665640564039457584007913129639936)) : (d16 V).length < 100000 := by
  have := d16_len (A := V) (k := 33) (by rw [p528]; exact h)
  omega
theorem big33 {V : Nat} (h : V < 115792089237316195423570985008687907853269984665640564039457584007913129639936) : V < 65536 * (115792089237316195423570985008687907853269984665640564039457584007913129639936 * 115792089237316195423570985008687907853269984665640564039457584007913129639936) := by omega
theorem len_pos16 {V : Nat} (h : 1 ≤ V) : 0 < (d16 V).length := (len_iff16 V 0).2 (by rw [Nat.mul_zero]; exact h)
theorem cmpZ_le {a b : Nat} (h : a ≤ b) : cmpZ a b ≤ 0 := by
  unfold cmpZ
  split
  · omega
  · split <;> omega
theorem oW_of (n : Nat) : (oW (ofN n)).1 = (oW (ofN n)).2 := by
  have h := ofN_ok n
  unfold oW
  generalize ofN n = y at *
  exact decide_eq_true h
theorem oW4 (x : W4) : ((oW (sl4 x)).1 = (oW (sl4 x)).2 ∧ (oW (sh4 x)).1 = (oW (sh4 x)).2) ∧ (oW (cl4 x)).1 = (oW (cl4 x)).2 ∧ (oW (ch4 x)).1 = (oW (ch4 x)).2 := ⟨⟨oW_of _, oW_of _⟩, oW_of _, oW_of _⟩
end Go.Proofs.YtdlpffgekmidnaaDoor
namespace Go.Proofs.YtdlpffgekmidnaaDoor
open Go.RowKit Go.Extern.Stop Go.Stop Go.Extern
/-! ### what the model's entries for internal/reflectlite answer at these types -/
theorem as_valueOfP (t : Addr) (w : World) : (ReflectliteValue.unpack (.iface 67 (.pointer (some t)))).run Tryd.prog w
    = .ok (.agg #[.pointer (some ⟨3, 67, none⟩), .pointer (some ⟨w.heap.size, 0, none⟩), .int .u64 150]) (w.alloc (.cells #[.pointer (some t)] 67)) := by kernel_rfl
theorem as_typeP (a : Addr) (w : World) : (ReflectliteValue.methodAny (ReflectliteValue.valueError "reflectlite.Value.Type" 0) (fun t _ _ _ => ReflectliteType.toType t) #[.agg #[.pointer (some ⟨3, 67, none⟩), .pointer (some a), .int .u64 150]]).run Tryd.prog w
    = .ok (.iface 101 (.agg #[.pointer (some ⟨3, 67, none⟩)])) w := by kernel_rfl
theorem as_methodKind (h : Value) (w : World) : (Go.method 247 101 (.agg #[h]) "Kind").run Tryd.prog w = .ok (84, h) w := by kernel_rfl
theorem as_kindP (w : World) : ((ReflectliteType.abiMethod fun t => (fun a : Nat => Value.int IntKind.u8 (a : Int)) <$> Rtype.kind t) #[.pointer (some ⟨3, 67, none⟩)]).run Tryd.prog w = .ok (.int .u8 22) w := by kernel_rfl
theorem as_kindE (w : World) : ((ReflectliteType.abiMethod fun t => (fun a : Nat => Value.int IntKind.u8 (a : Int)) <$> Rtype.kind t) #[.pointer (some ⟨3, 57, none⟩)]).run Tryd.prog w = .ok (.int .u8 2) w := by kernel_rfl
theorem as_rlm (z : Sem Value) (f : TypeId → Addr → Nat → Nat → Sem Value) (v : Value) :
    ReflectliteValue.method z f #[v] = (do match ← ReflectliteValue.parts v with | none => z | some (t, a, fl) => f t a fl (fl % 32)) := rfl
theorem as_partsP (a : Addr) (w : World) : (ReflectliteValue.parts (.agg #[.pointer (some ⟨3, 67, none⟩), .pointer (some a), .int .u64 150])).run Tryd.prog w = .ok (some (67, a, 150)) w := by kernel_rfl
theorem as_isNilP (a p : Addr) (W : World) (ha : W.cell? a = some (.pointer (some p))) :
    (ReflectliteValue.method (ReflectliteValue.valueError "reflectlite.Value.IsNil" 0) ReflectliteValue.isNil #[.agg #[.pointer (some ⟨3, 67, none⟩), .pointer (some a), .int .u64 150]]).run Tryd.prog W = .ok (.bool false) W := by
  rw [as_rlm]
  simp only [Sem.run_bind, as_partsP, Result.andThen]
  simp [ReflectliteValue.isNil, loadVar, isAgg, underlying, Tryd.underlying67, ha, Result.andThen]
theorem as_methodElem (h : Value) (w : World) : (Go.method 247 101 (.agg #[h]) "Elem").run Tryd.prog w = .ok (94, .agg #[h]) w := by kernel_rfl
theorem as_methodImplements (h : Value) (w : World) : (Go.method 247 101 (.agg #[h]) "Implements").run Tryd.prog w = .ok (95, .agg #[h]) w := by kernel_rfl
theorem as_methodAssignableTo (h : Value) (w : World) : (Go.method 247 101 (.agg #[h]) "AssignableTo").run Tryd.prog w = .ok (92, .agg #[h]) w := by kernel_rfl
theorem as_elemP (w : World) : (ReflectliteType.method ReflectliteType.elem #[.agg #[.pointer (some ⟨3, 67, none⟩)]]).run Tryd.prog w = .ok (.iface 101 (.agg #[.pointer (some ⟨3, 57, none⟩)])) w := by kernel_rfl
theorem as_implementsE (w : World) : (ReflectliteType.relation "Implements" ReflectliteType.implements_ #[.agg #[.pointer (some ⟨3, 57, none⟩)], .iface 101 (.agg #[.pointer (some ⟨3, 26, none⟩)])]).run Tryd.prog w = .ok (.bool true) w := by kernel_rfl
theorem as_typeOfE (v : Value) (w : World) : (ReflectliteType.typeOf #[.iface 57 v]).run Tryd.prog w = .ok (.iface 101 (.agg #[.pointer (some ⟨3, 57, none⟩)])) w := by kernel_rfl
theorem as_assignableE (w : World) : (ReflectliteType.relation "AssignableTo" ReflectliteType.assignableTo #[.agg #[.pointer (some ⟨3, 57, none⟩)], .iface 101 (.agg #[.pointer (some ⟨3, 57, none⟩)])]).run Tryd.prog w = .ok (.bool true) w := by kernel_rfl
theorem as_valueOfE (n : Int) (w : World) : (ReflectliteValue.unpack (.iface 57 (.int .i64 n))).run Tryd.prog w
    = .ok (.agg #[.pointer (some ⟨3, 57, none⟩), .pointer (some ⟨w.heap.size, 0, none⟩), .int .u64 130]) (w.alloc (.cells #[.int .i64 n] 57)) := by kernel_rfl
theorem as_elemOfP (w : World) : (Rtype.elem? 67).run Tryd.prog w = .ok (some 57) w := by kernel_rfl
theorem as_mkE (p : Addr) (w : World) : (ReflectliteValue.mk 57 p ReflectliteValue.flagAddr).run Tryd.prog w = .ok (.agg #[.pointer (some ⟨3, 57, none⟩), .pointer (some p), .int .u64 386]) w := by kernel_rfl
theorem as_elemVP (a p : Addr) (W : World) (ha : W.cell? a = some (.pointer (some p))) :
    (ReflectliteValue.method (ReflectliteValue.valueError "reflectlite.Value.Elem" 0) ReflectliteValue.elem #[.agg #[.pointer (some ⟨3, 67, none⟩), .pointer (some a), .int .u64 150]]).run Tryd.prog W
      = .ok (.agg #[.pointer (some ⟨3, 57, none⟩), .pointer (some p), .int .u64 386]) W := by
  rw [as_rlm]
  simp only [Sem.run_bind, as_partsP, Result.andThen]
  simp [ReflectliteValue.elem, loadVar, isAgg, underlying, Tryd.underlying67, ha, Result.andThen, as_elemOfP, as_mkE]
theorem as_partsEa (a : Addr) (w : World) : (ReflectliteValue.parts (.agg #[.pointer (some ⟨3, 57, none⟩), .pointer (some a), .int .u64 386])).run Tryd.prog w = .ok (some (57, a, 386)) w := by kernel_rfl
theorem as_partsE (a : Addr) (w : World) : (ReflectliteValue.parts (.agg #[.pointer (some ⟨3, 57, none⟩), .pointer (some a), .int .u64 130])).run Tryd.prog w = .ok (some (57, a, 130)) w := by kernel_rfl
theorem as_directE (w : World) : (Rtype.directlyAssignable 57 57).run Tryd.prog w = .ok true w := by kernel_rfl
theorem as_setE (ta b : Addr) (n : Int) (old : Value) (W : World) (hb : W.cell? b = some (.int .i64 n)) (ht : W.cell? ta = some old) (hf : W.frozen? ta = false) :
    (ReflectliteValue.set #[.agg #[.pointer (some ⟨3, 57, none⟩), .pointer (some ta), .int .u64 386], .agg #[.pointer (some ⟨3, 57, none⟩), .pointer (some b), .int .u64 130]]).run Tryd.prog W
      = .ok (.tuple #[]) (W.setCell ta (.int .i64 n)) := by
  have e : ∀ v x : Value, ReflectliteValue.set #[v, x] = (ReflectliteValue.parts v >>= fun p => ReflectliteValue.parts x >>= fun q => _) := fun _ _ => rfl
  rw [e]
  simp only [Sem.run_bind, as_partsEa, as_partsE, Result.andThen]
  simp [ReflectliteValue.flagAddr, loadVar, isAgg, underlying, Tryd.underlying57, hb, Result.andThen, as_directE, storeVar, Value.cells, storeCells, Addr.add]
  rw [run_store Tryd.prog W ta _ _ (by rfl)]
  simp [ht, hf]
/-- what lies in the variable errors.errorType -/
def errT : Value := .iface 101 (.agg #[.pointer (some ⟨3, 26, none⟩)])
/-- the world behind the call -/
def asW (n : Int) (t : Addr) (w : World) : World := ((((w.alloc (.cells #[.pointer (some t)] 67)).alloc (.cells #[.pointer (some ⟨3, 67, none⟩), .pointer (some ⟨w.heap.size, 0, none⟩), .int .u64 150] 85)).alloc (.cells #[.pointer (some ⟨3, 67, none⟩), .pointer (some ⟨w.heap.size, 0, none⟩), .int .u64 150] 85)).alloc (.cells #[.int .i64 n] 57)).setCell t (.int .i64 n)
set_option maxHeartbeats 4000000 in
theorem as_hit (n : Int) (t : Addr) (old : Value) (w : World) (hg : w.cell? ⟨0, 0, none⟩ = some (.iface 101 (.agg #[.pointer (some ⟨3, 26, none⟩)]))) (ht0 : w.cell? t = some old) (hf0 : w.frozen? t = false) :
    Calls Tryd.prog 37 #[.iface 57 (.int .i64 n), .iface 67 (.pointer (some t))] w fun ev w' => ev = .returned (.bool true) ∧ w' = ((((w.alloc (.cells #[.pointer (some t)] 67)).alloc (.cells #[.pointer (some ⟨3, 67, none⟩), .pointer (some ⟨w.heap.size, 0, none⟩), .int .u64 150] 85)).alloc (.cells #[.pointer (some ⟨3, 67, none⟩), .pointer (some ⟨w.heap.size, 0, none⟩), .int .u64 150] 85)).alloc (.cells #[.int .i64 n] 57)).setCell t (.int .i64 n) := by
  have h6 := @run_callFunc_extern Tryd.prog 51 _ (fun args => ReflectliteValue.unpack (args.getD 0 (.tuple #[]))) Tryd.func51 (by kernel_rfl) (by kernel_rfl) (by kernel_rfl) (by kernel_rfl)
  have h7 := @run_callFunc_extern Tryd.prog 52 _ (ReflectliteValue.methodAny (ReflectliteValue.valueError "reflectlite.Value.Type" 0) (fun t _ _ _ => ReflectliteType.toType t)) Tryd.func52 (by kernel_rfl) (by kernel_rfl) (by kernel_rfl) (by kernel_rfl)
  have h8 := @run_callFunc_extern Tryd.prog 53 _ (ReflectliteValue.method (ReflectliteValue.valueError "reflectlite.Value.IsNil" 0) ReflectliteValue.isNil) Tryd.func53 (by kernel_rfl) (by kernel_rfl) (by kernel_rfl) (by kernel_rfl)
  have h27 := @run_callFunc_extern Tryd.prog 84 _ (ReflectliteType.abiMethod fun t => do pure (.int .u8 (← Rtype.kind t))) Tryd.func84 (by kernel_rfl) (by kernel_rfl) (by kernel_rfl) (by kernel_rfl)
  have h37 := @run_callFunc_extern Tryd.prog 94 _ (ReflectliteType.method ReflectliteType.elem) Tryd.func94 (by kernel_rfl) (by kernel_rfl) (by kernel_rfl) (by kernel_rfl)
  have h38 := @run_callFunc_extern Tryd.prog 95 _ (ReflectliteType.relation "Implements" ReflectliteType.implements_) Tryd.func95 (by kernel_rfl) (by kernel_rfl) (by kernel_rfl) (by kernel_rfl)
  have h10 := @run_callFunc_extern Tryd.prog 64 _ ReflectliteType.typeOf Tryd.func64 (by kernel_rfl) (by kernel_rfl) (by kernel_rfl) (by kernel_rfl)
  have h35 := @run_callFunc_extern Tryd.prog 92 _ (ReflectliteType.relation "AssignableTo" ReflectliteType.assignableTo) Tryd.func92 (by kernel_rfl) (by kernel_rfl) (by kernel_rfl) (by kernel_rfl)
  have h11 := @run_callFunc_extern Tryd.prog 65 _ (ReflectliteValue.method (ReflectliteValue.valueError "reflectlite.Value.Elem" 0) ReflectliteValue.elem) Tryd.func65 (by kernel_rfl) (by kernel_rfl) (by kernel_rfl) (by kernel_rfl)
  have h12 := @run_callFunc_extern Tryd.prog 66 _ ReflectliteValue.set Tryd.func66 (by kernel_rfl) (by kernel_rfl) (by kernel_rfl) (by kernel_rfl)
  have tO := as_typeOfE
  have mA := as_methodAssignableTo
  have aE := as_assignableE
  have vE := as_valueOfE
  have f6 := as_valueOfP
  have f7 := as_typeP
  have mK := as_methodKind
  have mE := as_methodElem
  have mI := as_methodImplements
  have kP := as_kindP
  have kE := as_kindE
  have eP := as_elemP
  have iE := as_implementsE
  have n8 := as_isNilP ⟨w.heap.size, 0, none⟩ t ((w.alloc (.cells #[.pointer (some t)] 67)).alloc (.cells #[.pointer (some ⟨3, 67, none⟩), .pointer (some ⟨w.heap.size, 0, none⟩), .int .u64 150] 85)) (by simp)
  have hlt : 0 < w.heap.size := by
    rcases Nat.eq_zero_or_pos w.heap.size with h0 | h
    · simp [World.cell?, h0] at hg
    · exact h
  have hg2 : ((w.alloc (.cells #[.pointer (some t)] 67)).alloc (.cells #[.pointer (some ⟨3, 67, none⟩), .pointer (some ⟨w.heap.size, 0, none⟩), .int .u64 150] 85)).cell? ⟨0, 0, none⟩ = some (.iface 101 (.agg #[.pointer (some ⟨3, 26, none⟩)])) := by
    rw [World.cell?_alloc_lt _ _ ⟨0, 0, none⟩ (by simp), World.cell?_alloc_lt _ _ ⟨0, 0, none⟩ hlt]; exact hg
  have htl : t.block < w.heap.size := by
    rcases Nat.lt_or_ge t.block w.heap.size with h | h
    · exact h
    · simp [World.cell?, Array.getElem?_eq_none h] at ht0
  have el := as_elemVP ⟨w.heap.size, 0, none⟩ t (((w.alloc (.cells #[.pointer (some t)] 67)).alloc (.cells #[.pointer (some ⟨3, 67, none⟩), .pointer (some ⟨w.heap.size, 0, none⟩), .int .u64 150] 85)).alloc (.cells #[.pointer (some ⟨3, 67, none⟩), .pointer (some ⟨w.heap.size, 0, none⟩), .int .u64 150] 85)) (by rw [World.cell?_alloc_lt _ _ ⟨w.heap.size, 0, none⟩ (by simp; omega)]; simp)
  have st := as_setE t ⟨w.heap.size + 1 + 1 + 1, 0, none⟩ n old ((((w.alloc (.cells #[.pointer (some t)] 67)).alloc (.cells #[.pointer (some ⟨3, 67, none⟩), .pointer (some ⟨w.heap.size, 0, none⟩), .int .u64 150] 85)).alloc (.cells #[.pointer (some ⟨3, 67, none⟩), .pointer (some ⟨w.heap.size, 0, none⟩), .int .u64 150] 85)).alloc (.cells #[.int .i64 n] 57))
    (by rw [World.cell?_alloc_at _ _ _ _ (by simp)]; rfl)
    (by rw [World.cell?_alloc_lt _ _ t (by simp; omega), World.cell?_alloc_lt _ _ t (by simp; omega), World.cell?_alloc_lt _ _ t (by simp; omega), World.cell?_alloc_lt _ _ t htl]; exact ht0)
    (by rw [World.frozen?_alloc_old _ _ t (by simp; omega), World.frozen?_alloc_old _ _ t (by simp; omega), World.frozen?_alloc_old _ _ t (by simp; omega), World.frozen?_alloc_old _ _ t (Nat.ne_of_lt htl)]; exact hf0)
  go_enter Tryd.func37, Tryd.ntmps37
  go_wp2
  refine wp_loop_rounds 1 ?_
  rw [rounds_succ]
  go_wp2
  go_ret
  exact ⟨rfl, rfl⟩
end Go.Proofs.YtdlpffgekmidnaaDoor
