/-
  The document's product (tillerref02.Mul), as a contract: two rows, none of them nothing.
-/
import Derived.Test.YtnolcojnodoecaaG11
import Derived.Test.YtnolcojnodoecaaG09
namespace Go.Proofs.Ytnolcojnodoecaa
open Go.KRun Go.Nt
set_option maxRecDepth 100000
set_option linter.unusedVariables false

theorem Runs.next {T : Tab} {c1 c2 : Code} {x : Lf} {front : List Value} {n : Nat} {h : Hp} {P : Ex → Lf → Prop} (h1 : Runs T c1 x fun e y => e = none ∧ (∃ g, y.1 = front ++ tl n g) ∧ y.2.1 = h) (h2 : ∀ g s, Runs T c2 (front ++ tl n g, h, s) P) : Runs T (.seq c1 c2) x P := by
  refine Runs.seq h1 (fun y hy => ?_) (fun e y hy => by cases hy.1)
  obtain ⟨_, ⟨g, e1⟩, e2⟩ := hy
  obtain ⟨t, hh, s⟩ := y
  simp only at e1 e2
  subst e1 e2
  exact h2 g s
theorem wU_setM (O : List Int) (j : Nat) (v : Int) : (wU O).set j (.int .u32 v) = wU (O.set j v) := by unfold wU; rw [List.map_set]
theorem wrap64M {n : Int} (h0 : 0 ≤ n) (h1 : n < 18446744073709551616) : IntKind.u64.wrap n = n := by simp [IntKind.wrap, IntKind.bits, IntKind.signed]; omega
theorem getD_of {O : List Int} {j : Nat} (h : j < O.length) : (wU O)[0 + j * 1]? = some (.int .u32 (O.getD j 0)) := by
  rw [Nat.zero_add, Nat.mul_one]
  unfold wU
  rw [List.getElem?_map, List.getElem?_eq_getElem h]
  simp [List.getD, List.getElem?_eq_getElem h]
theorem smallC_of {n : Nat} (h : n < 1000000) : smallC n = true := by
  unfold smallC
  exact blt_iff.2 (by have : dead = 4611686018427387904 := rfl; omega)
theorem nat_dg {x : Int} (h : Dg 65536 x) : ∃ p : Nat, x = (p : Int) ∧ p < 65536 := ⟨x.toNat, by have := h.1; omega, by have := h.1; have := h.2; omega⟩
section
variable {la lb : List Value} {o c o' c' : Nat} {A B : List Int}
def mSt (o n c o' n' c' z : Nat) (la lb : List Value) (O : List Int) (i : Nat) (v7 v8 : Value) (Y : Lf) : Prop := (∃ g, Y.1 = mFr o n c o' n' c' z (.int .i64 ((i : Nat) : Int)) v7 v8 ++ tl 59 g) ∧ Y.2.1 = hM3 (wU O) lb la
def mOk (z i n' : Nat) (O : List Int) : Prop := O.length = z ∧ (∀ x ∈ O, Dg 65536 x) ∧ ∀ j, i + n' ≤ j → O.getD j 0 = 0
def mIn (o c o' c' : Nat) (la lb : List Value) (A B : List Int) (i V : Nat) (m : Nat) (Y : Lf) : Prop :=
  ∃ k O c7, m = B.length - k ∧ k ≤ B.length ∧ mOk (A.length + B.length) i B.length O ∧ c7 < 65536 ∧ vb 65536 O + c7 * 65536 ^ (i + k) = V + (A.getD i 0).toNat * vb 65536 (B.take k) * 65536 ^ i ∧ mSt o A.length c o' B.length c' (A.length + B.length) la lb O i (.int .u64 ((c7 : Nat) : Int)) (.int .i64 ((k : Nat) : Int)) Y
def mFi (o c o' c' : Nat) (la lb : List Value) (A B : List Int) (i V : Nat) (Y : Lf) : Prop :=
  ∃ O c7 v8, mOk (A.length + B.length) i B.length O ∧ c7 < 65536 ∧ vb 65536 O + c7 * 65536 ^ (i + B.length) = V + (A.getD i 0).toNat * vb 65536 B * 65536 ^ i ∧ mSt o A.length c o' B.length c' (A.length + B.length) la lb O i (.int .u64 ((c7 : Nat) : Int)) v8 Y
theorem set_mOk {z i n' : Nat} {O : List Int} (h : mOk z i n' O) {j : Nat} (hj : j < i + n') {v : Int} (hv : ∀ x ∈ O.set j v, Dg 65536 x) : mOk z i n' (O.set j v) := by
  refine ⟨by rw [List.length_set]; exact h.1, hv, fun t ht => ?_⟩
  have := h.2.2 t ht
  simp only [List.getD] at *
  rw [List.getElem?_set_ne (by omega)]
  exact this
theorem umul_inner (rA : Row la o A) (rB : Row lb o' B) (dA : ∀ x ∈ A, Dg 65536 x) (dB : ∀ x ∈ B, Dg 65536 x) (hz : A.length + B.length < 1000000) {i V : Nat} (hi : i < A.length) {Y0 : Lf} (h0 : mIn o c o' c' la lb A B i V B.length Y0) :
    Runs (tabH Try.prog extY conN hcV) (.block 2 (.loop (muL Try.f34))) Y0 fun e Y => match e with | none => mFi o c o' c' la lb A B i V Y | some none => False | some (some _) => False := by
  refine Runs.forLoop (P := mFi o c o' c' la lb A B i V) (R := fun _ => False) (mIn o c o' c' la lb A B i V) ?_ (n := B.length) h0
  rintro m ⟨t, h', s⟩ ⟨k, O, c7, hm, hk, hO, hc, hval, ⟨g, ht⟩, hh⟩
  simp only at ht hh
  subst ht hh
  by_cases hlt : k < B.length
  · have hj : i + k < O.length := by rw [hO.1]; omega
    obtain ⟨p, ep, hp⟩ := nat_dg (at_dg dA i)
    obtain ⟨q, eq, hq⟩ := nat_dg (at_dg dB k)
    obtain ⟨d, ed, hd⟩ := nat_dg (at_dg hO.2.1 (i + k))
    have eij : ijM i k = ((i + k : Nat) : Int) := by unfold ijM; rw [wrapI (by omega) (by omega)]; omega
    have hpq : p * q ≤ 65535 * 65535 := Nat.mul_le_mul (by omega) (by omega)
    have epq : (p : Int) * (q : Int) = ((p * q : Nat) : Int) := by simp
    have eT : tM c7 d p q = ((c7 + d + p * q : Nat) : Int) := by
      unfold tM
      rw [wrap64M (n := (d : Int)) (by omega) (by omega), wrap64M (n := (p : Int)) (by omega) (by omega), wrap64M (n := (q : Int)) (by omega) (by omega), epq, wrap64M (n := ((p * q : Nat) : Int)) (by omega) (by omega), wrap64M (n := (c7 : Int) + (d : Int)) (by omega) (by omega), wrap64M (by omega) (by omega)]
      omega
    have e1 : IntKind.u64.wrap ((tM c7 d p q).tdiv 65536) = (((c7 + d + p * q) / 65536 : Nat) : Int) := by
      rw [eT, Int.tdiv_eq_ediv_of_nonneg (by omega), wrap64M (by omega) (by omega)]
      omega
    have e2 : IntKind.u32.wrap ((tM c7 d p q).tmod 65536) = (((c7 + d + p * q) % 65536 : Nat) : Int) := by
      rw [eT, Int.tmod_eq_emod_of_nonneg (by omega), wrap32 (by omega) (by omega)]
      omega
    have e3 : IntKind.i64.wrap ((k : Int) + 1) = ((k + 1 : Nat) : Int) := by rw [wrapI (by omega) (by omega)]; omega
    have hstep := mul_step hj hO.2.1 hc hp hq
    rw [ed, Int.toNat_natCast] at hstep
    obtain ⟨s1, s2, s3⟩ := hstep
    have hw := mu_in o A.length c o' B.length c' (A.length + B.length) i c7 k d p q undef undef (wU O) lb la g
    have lg : okLog [stM (wU O) (ijM i k), inM (ijM i k) (A.length + B.length), d65, ceM lb o' k q, inM k B.length, ceM la o i p, inM i A.length, ceM (wU O) 0 (ijM i k) d, inM (ijM i k) (A.length + B.length), (decide ((k : Int) < ((B.length : Nat) : Int)), true)] := by
      have g1 : decide (0 + (ijM i k).toNat * 1 < (wU O).length) = true := decide_eq_true (by rw [eij, Int.toNat_natCast, wU_len]; omega)
      have g2 : decide (0 ≤ ijM i k ∧ ijM i k < ((A.length + B.length : Nat) : Int)) = true := decide_eq_true (by rw [eij]; omega)
      have g3 : cellIs (lb[o' + (k : Int).toNat * 1]?) (.int .u32 q) = true := by rw [Int.toNat_natCast, Nat.mul_one, rB.cell hlt, eq]; simp [cellIs]
      have g4 : decide (0 ≤ (k : Int) ∧ (k : Int) < ((B.length : Nat) : Int)) = true := decide_eq_true (by omega)
      have g5 : cellIs (la[o + (i : Int).toNat * 1]?) (.int .u32 p) = true := by rw [Int.toNat_natCast, Nat.mul_one, rA.cell hi, ep]; simp [cellIs]
      have g6 : decide (0 ≤ (i : Int) ∧ (i : Int) < ((A.length : Nat) : Int)) = true := decide_eq_true (by omega)
      have g7 : cellIs ((wU O)[0 + (ijM i k).toNat * 1]?) (.int .u32 d) = true := by rw [eij, Int.toNat_natCast, getD_of hj, ed]; simp [cellIs]
      exact okTwo g1 (okTwo g2 (okTwo rfl (okTwo g3 (okTwo g4 (okTwo g5 (okTwo g6 (okTwo g7 (okTwo g2 (okOne (decide_eq_true (by omega)))))))))))
    rw [e1, e2, e3, eij, Int.toNat_natCast, Nat.zero_add, Nat.mul_one, wU_setM] at hw
    refine (goesT_runs (tabH_ok conN_ok hcV_ok) hw (by rw [← Int.toNat_natCast (i + k), ← eij] at *; exact lg)).mono fun e z hz => ?_
    obtain ⟨rfl, z1, z2⟩ := hz
    refine ⟨B.length - (k + 1), by omega, k + 1, O.set (i + k) (((c7 + d + p * q) % 65536 : Nat) : Int), (c7 + d + p * q) / 65536, rfl, by omega, set_mOk hO (by omega) s3, s2, ?_, z1, z2⟩
    rw [vb_take, Nat.mul_add, Nat.add_mul, eq, Int.toNat_natCast, ep, Int.toNat_natCast]
    rw [ep, Int.toNat_natCast] at hval
    have x1 : p * (65536 ^ k * q) * 65536 ^ i = p * q * 65536 ^ (i + k) := by rw [Nat.pow_add, Nat.mul_comm (65536 ^ k) q, ← Nat.mul_assoc, Nat.mul_assoc (p * q), Nat.mul_comm (65536 ^ k)]
    rw [x1]
    have x2 : i + (k + 1) = i + k + 1 := by omega
    rw [x2]
    omega
  · have hkl : k = B.length := by omega
    subst hkl
    refine (goesT_runs (tabH_ok conN_ok hcV_ok) (mu_out o A.length c o' B.length c' (A.length + B.length) i c7 ((B.length : Nat) : Int) 0 0 0 undef undef (wU O) lb la g) (okOne (decide_eq_false (by omega)))).mono fun e z hz => ?_
    obtain ⟨rfl, z1, z2⟩ := hz
    rw [List.take_length] at hval
    exact ⟨rfl, O, c7, _, hO, hc, hval, z1, z2⟩
theorem blk1 {T : Tab} {c : Code} {id : Nat} {x : Lf} {P : Lf → Prop} (h : Runs T c x fun e y => e = none ∧ P y) : Runs T (.block id c) x fun e y => e = none ∧ P y :=
  Runs.block h (fun y hy => hy) (fun y hy => by cases hy.1) (fun y hy => by cases hy.1) (fun id' y _ hy => by cases hy.1)
def mOu (o c o' c' : Nat) (la lb : List Value) (A B : List Int) (i : Nat) (Y : Lf) : Prop :=
  ∃ O v7 v8, mOk (A.length + B.length) i B.length O ∧ vb 65536 O = vb 65536 (A.take i) * vb 65536 B ∧ mSt o A.length c o' B.length c' (A.length + B.length) la lb O i v7 v8 Y
theorem umul_round (rA : Row la o A) (rB : Row lb o' B) (dA : ∀ x ∈ A, Dg 65536 x) (dB : ∀ x ∈ B, Dg 65536 x) (hz : A.length + B.length < 1000000) {i : Nat} (hi : i < A.length) {Y0 : Lf} (h0 : mOu o c o' c' la lb A B i Y0) :
    Runs (tabH Try.prog extY conN hcV) (muO Try.f34) Y0 fun e Y => e = none ∧ mOu o c o' c' la lb A B (i + 1) Y := by
  obtain ⟨O, v7, v8, hO, hval, ⟨g, ht⟩, hh⟩ := h0
  obtain ⟨t, h', s⟩ := Y0
  simp only at ht hh
  subst ht hh
  have hT := tabH_ok conN_ok hcV_ok
  rw [umul_out]
  refine Runs.next (goesT_runs hT (mu_h1 o A.length c o' B.length c' (A.length + B.length) i 0 0 0 0 0 v7 v8 (wU O) lb la g) (okOne (decide_eq_true (by omega)))) fun g s => ?_
  refine Runs.seq (P1 := fun e Y => e = none ∧ ∃ O v7 v8, mOk (A.length + B.length) (i + 1) B.length O ∧ vb 65536 O = vb 65536 (A.take (i + 1)) * vb 65536 B ∧ mSt o A.length c o' B.length c' (A.length + B.length) la lb O i v7 v8 Y) (blk1 ?_) ?_ (fun e y hy => by cases hy.1)
  · rw [umul_row]
    refine Runs.next (goesT_runs hT (mu_r5 o A.length c o' B.length c' (A.length + B.length) i 0 0 0 0 0 v7 v8 (wU O) lb la g) (fun _ h => by cases h)) fun g s => ?_
    refine Runs.seq (P1 := fun e Y => e = none ∧ mFi o c o' c' la lb A B i (vb 65536 O) Y) ?_ ?_ (fun e y hy => by cases hy.1)
    · refine Runs.next (goesT_runs hT (mu_r6 o A.length c o' B.length c' (A.length + B.length) i 0 0 0 0 0 (.int .u64 0) v8 (wU O) lb la g) (fun _ h => by cases h)) fun g s => ?_
      refine (umul_inner rA rB dA dB hz hi (V := vb 65536 O) ⟨0, O, 0, by omega, by omega, hO, by omega, ?_, ⟨g, rfl⟩, rfl⟩).mono fun e Y hY => ?_
      · simp [vb]
      · match e, hY with
        | none, hY => exact ⟨rfl, hY⟩
        | some none, hY => exact hY.elim
        | some (some _), hY => exact hY.elim
    · rintro ⟨t, h', s⟩ ⟨_, O', c7, w8, hO', hc7, hv', ⟨g, ht⟩, hh⟩
      simp only at ht hh
      subst ht hh
      have hj : i + B.length < O'.length := by rw [hO'.1]; omega
      have eij : ijM i ((B.length : Nat) : Int) = ((i + B.length : Nat) : Int) := by unfold ijM; rw [wrapI (by omega) (by omega)]; omega
      have e1 : IntKind.u32.wrap ((c7 : Nat) : Int) = ((c7 : Nat) : Int) := wrap32 (by omega) (by omega)
      have hw := mu_r12 o A.length c o' B.length c' (A.length + B.length) i c7 0 0 0 0 undef w8 (wU O') lb la g
      have g1 : decide (0 + (ijM i ((B.length : Nat) : Int)).toNat * 1 < (wU O').length) = true := decide_eq_true (by rw [eij, Int.toNat_natCast, wU_len]; omega)
      have g2 : decide (0 ≤ ijM i ((B.length : Nat) : Int) ∧ ijM i ((B.length : Nat) : Int) < ((A.length + B.length : Nat) : Int)) = true := decide_eq_true (by rw [eij]; omega)
      have r := goesT_runs (s0 := s) hT hw (okTwo g1 (okOne g2))
      rw [e1, eij, Int.toNat_natCast, Nat.zero_add, Nat.mul_one, wU_setM] at r
      refine r.mono fun e z hz => ?_
      obtain ⟨rfl, z1, z2⟩ := hz
      have hdg : ∀ x ∈ O'.set (i + B.length) ((c7 : Nat) : Int), Dg 65536 x := set_dg hO'.2.1 ⟨by omega, by omega⟩ _
      refine ⟨rfl, O'.set (i + B.length) ((c7 : Nat) : Int), _, _, ⟨by rw [List.length_set]; exact hO'.1, hdg, fun j hj' => ?_⟩, ?_, z1, z2⟩
      · have := hO'.2.2 j (by omega)
        simp only [List.getD] at *
        rw [List.getElem?_set_ne (by omega)]
        exact this
      · have hs := vb_set (b := 65536) hj ((c7 : Nat) : Int)
        rw [hO'.2.2 (i + B.length) (Nat.le_refl _), Int.toNat_natCast] at hs
        rw [vb_take, Nat.add_mul, ← hval]
        have x1 : 65536 ^ i * (A.getD i 0).toNat * vb 65536 B = (A.getD i 0).toNat * vb 65536 B * 65536 ^ i := by rw [Nat.mul_assoc, Nat.mul_comm]
        rw [x1]
        have x2 : c7 * 65536 ^ (i + B.length) = 65536 ^ (i + B.length) * c7 := Nat.mul_comm _ _
        have x3 : (65536 : Nat) ^ (i + B.length) * (0 : Int).toNat = 0 := by simp
        omega
  · rintro ⟨t, h', s⟩ ⟨_, O', w7, w8, hO', hv', ⟨g, ht⟩, hh⟩
    simp only at ht hh
    subst ht hh
    have e3 : IntKind.i64.wrap ((i : Int) + 1) = ((i + 1 : Nat) : Int) := by rw [wrapI (by omega) (by omega)]; omega
    have hw := mu_r4 o A.length c o' B.length c' (A.length + B.length) i 0 0 0 0 0 w7 w8 (wU O') lb la g
    rw [e3] at hw
    refine (goesT_runs hT hw (fun _ h => by cases h)).mono fun e z hz => ?_
    obtain ⟨rfl, z1, z2⟩ := hz
    exact ⟨rfl, O', w7, w8, hO', hv', z1, z2⟩
theorem umul_loop (rA : Row la o A) (rB : Row lb o' B) (dA : ∀ x ∈ A, Dg 65536 x) (dB : ∀ x ∈ B, Dg 65536 x) (hz : A.length + B.length < 1000000) {Y0 : Lf} (h0 : mOu o c o' c' la lb A B 0 Y0) :
    Runs (tabH Try.prog extY conN hcV) (.block 0 (.loop (muO Try.f34))) Y0 fun e Y => match e with | none => mOu o c o' c' la lb A B A.length Y | some none => False | some (some _) => False := by
  refine Runs.forLoop (P := mOu o c o' c' la lb A B A.length) (R := fun _ => False) (fun m Y => ∃ i, m = A.length - i ∧ i ≤ A.length ∧ mOu o c o' c' la lb A B i Y) ?_ (n := A.length) ⟨0, by omega, by omega, h0⟩
  rintro m Y ⟨i, hm, hi, hY⟩
  by_cases hlt : i < A.length
  · refine (umul_round rA rB dA dB hz hlt hY).mono fun e z hz' => ?_
    obtain ⟨rfl, z1⟩ := hz'
    exact ⟨A.length - (i + 1), by omega, i + 1, rfl, by omega, z1⟩
  · have hil : i = A.length := by omega
    subst hil
    obtain ⟨O, v7, v8, hO, hval, ⟨g, ht⟩, hh⟩ := hY
    obtain ⟨t, h', s⟩ := Y
    simp only at ht hh
    subst ht hh
    rw [umul_out]
    refine Runs.seq (goesT_runs (tabH_ok conN_ok hcV_ok) (mu_h0 o A.length c o' B.length c' (A.length + B.length) ((A.length : Nat) : Int) 0 0 0 0 0 v7 v8 (wU O) lb la g) (okOne (decide_eq_false (by omega)))) (fun y hy => by cases hy.1) (fun e y hy => ?_)
    obtain ⟨e1, z1, z2⟩ := hy
    cases e1
    exact ⟨rfl, O, v7, v8, hO, hval, z1, z2⟩
theorem umul_runs (rA : Row la o A) (rB : Row lb o' B) (dA : ∀ x ∈ A, Dg 65536 x) (dB : ∀ x ∈ B, Dg 65536 x) (hz : A.length + B.length < 1000000) :
    Runs (tabH Try.prog extY conN hcV) (seqs (muPr Try.f34) (.seq (.seq (cFst (muB Try.f34)) (.block 0 (.loop (muO Try.f34)))) (muE Try.f34))) ([sl 0 o A.length c, sl 1 o' B.length c'] ++ List.replicate 66 undef, h2 la lb, []) fun e z => (e = none ∨ e = some none) ∧ resS Try.prog Try.f34 z.1 z.2.1 = some (sl 2 0 (d16 (vb 65536 A * vb 65536 B)).length (d16 (vb 65536 A * vb 65536 B)).length) ∧ ∃ r, z.2.1.blk? 2 = some (wU (d16 (vb 65536 A * vb 65536 B)) ++ r, tU) := by
  have hT := tabH_ok conN_ok hcV_ok
  have ez : zM A.length B.length = ((A.length + B.length : Nat) : Int) := by unfold zM; rw [wrapI (by omega) (by omega)]; omega
  have hp := mu_pre o A.length c o' B.length c' la lb
  have mk : okMakeB 4 (zM A.length B.length) (zM A.length B.length) = true := by unfold okMakeB; rw [ez]; exact decide_eq_true (by omega)
  refine goesT_list hT hp (okOne mk) fun g => ?_
  rw [ez, Int.toNat_natCast]
  have ew : List.replicate (A.length + B.length) (Value.int .u32 0) = wU (List.replicate (A.length + B.length) 0) := by unfold wU; rw [List.map_replicate]
  rw [ew]
  have hrep : mOk (A.length + B.length) 0 B.length (List.replicate (A.length + B.length) (0 : Int)) := by
    refine ⟨by simp, fun x hx => ?_, fun j _ => ?_⟩
    · rw [List.eq_of_mem_replicate hx]; exact ⟨by omega, by omega⟩
    · simp only [List.getD, List.getElem?_replicate]
      split <;> rfl
  have hv0 : ∀ n : Nat, vb 65536 (List.replicate n (0 : Int)) = 0 := fun n => by
    induction n with
    | zero => rfl
    | succ n ih => rw [List.replicate_succ]; simp only [vb, ih]; rfl
  refine Runs.seq (P1 := fun e Y => e = none ∧ mOu o c o' c' la lb A B A.length Y) ?_ ?_ (fun e y hy => by cases hy.1)
  · refine Runs.next (goesT_runs hT (mu_r2 (sl 0 o A.length c) (sl 1 o' B.length c') (sl 2 0 (A.length + B.length) (A.length + B.length)) _ g) (fun _ h => by cases h)) fun g s => ?_
    refine (umul_loop rA rB dA dB hz ⟨List.replicate (A.length + B.length) 0, _, _, hrep, by rw [hv0]; simp [vb], ⟨g, rfl⟩, rfl⟩).mono fun e Y hY => ?_
    match e, hY with
    | none, hY => exact ⟨rfl, hY⟩
    | some none, hY => exact hY.elim
    | some (some _), hY => exact hY.elim
  · rintro ⟨t, h', s⟩ ⟨_, O, v7, v8, hO, hval, ⟨g, ht⟩, hh⟩
    simp only at ht hh
    subst ht hh
    rw [List.take_length] at hval
    have hl := hO.1
    have hrow : rowC tU (wU O) 0 (A.length + B.length) (A.length + B.length) = true := by
      have := rowC_wU (L := O) (fun x hx => ⟨(hO.2.1 x hx).1, by have := (hO.2.1 x hx).2; omega⟩) (by rw [hl]; omega) (c := A.length + B.length) (by rw [hl]; unfold capOk; simp; exact .inl (smallC_of (by omega)))
      rw [hl] at this
      exact this
    have ec : cutI (wU O) 0 (A.length + B.length) = O := by
      have := cut_wU O
      rw [hl] at this
      exact this
    have et : trimN O = (d16 (vb 65536 A * vb 65536 B)).length := by
      rw [trim_len (by omega) hO.2.1, hval]
      rfl
    refine (goesT_runs hT (mu_end o A.length c o' B.length c' (A.length + B.length) ((A.length : Nat) : Int) 0 0 0 0 0 v7 v8 (wU O) lb la g) (okOne hrow)).mono fun e z hz' => ?_
    obtain ⟨rfl, ⟨g', e1⟩, e2⟩ := hz'
    refine ⟨.inr rfl, ?_, ?_⟩
    · rw [e1, e2, ec, et]
      rfl
    · rw [e2]
      refine ⟨wU (O.drop (trimN O)), ?_⟩
      have e3 : wU (d16 (vb 65536 A * vb 65536 B)) ++ wU (O.drop (trimN O)) = wU O := by
        unfold d16
        rw [← hval, ← take_trim (by omega) _ hO.2.1, ← wU_append, List.take_append_drop]
      rw [e3]
      rfl
end
def okMu (h : Hp) (p q : Option Addr) (n c n' c' : Nat) : Bool := rowP h p n c && dgB (rowOf h p n) && (rowP h q n' c' && dgB (rowOf h q n')) && Nat.blt (n + n') 1000000
def gUmul : AnsH := fun vals h s =>
  match vals with
  | [.slice (some ⟨b, o, none⟩) n c, .slice (some ⟨b', o', none⟩) n' c'] => mk16 (vO h (some ⟨b, o, none⟩) n * vO h (some ⟨b', o', none⟩) n') h s [(okMu h (some ⟨b, o, none⟩) (some ⟨b', o', none⟩) n c n' c', true)]
  | _ => none
theorem gUmul_ok : AnsHOk 34 gUmul := by
  intro vals h s v h' s' lg hg hl m B w E0 hv
  unfold gUmul at hg
  split at hg
  · rename_i b o n c b' o' n' c'
    unfold mk16 at hg
    cases hg
    have l3 := hl _ (List.mem_singleton.2 rfl)
    simp only [okMu, Bool.and_eq_true] at l3
    obtain ⟨⟨⟨q1, q2⟩, ⟨p1, p2⟩⟩, q4⟩ := l3
    have q2 := dgB_of q2
    have p2 := dgB_of p2
    have q4 := blt_iff.1 q4
    rcases rowP_cases q1 with ⟨h0, _⟩ | ⟨b1, o1, x, hp, hx, r1, rs, e0⟩
    · cases h0
    · cases hp
      rcases rowP_cases p1 with ⟨h0, _⟩ | ⟨b2, o2, y, hp', hy, t1, ts, f0⟩
      · cases h0
      · cases hp'
        rw [e0] at q2
        rw [f0] at p2
        obtain ⟨h1, h2', h3, h4, h5, h6, h7⟩ := rowC_of r1
        obtain ⟨k1, k2, k3, k4, k5, k6, k7⟩ := rowC_of t1
        have ev : vO h (some ⟨b, o, none⟩) n = vb 65536 (cutI x.1 o n) := by unfold vO; rw [e0]
        have ev' : vO h (some ⟨b', o', none⟩) n' = vb 65536 (cutI y.1 o' n') := by unfold vO; rw [f0]
        have r := umul_runs (c := c) (c' := c') h1 k1 q2 p2 (by rw [h2', k2]; exact q4)
        rw [h2', k2, ← ev, ← ev'] at r
        have evals : List.map (rn (pair b b')) [sl 0 o n c, sl 1 o' n' c'] = [.slice (some ⟨b, o, none⟩) n c, .slice (some ⟨b', o', none⟩) n' c'] := by
          simp [rn, rn2, rn1, sl, pair]
        have fin := row_calls1 (T := tabH Try.prog extY conN hcV) Try.func34 umul_body (rows2 h7 k7) (vals := [sl 0 o n c, sl 1 o' n' c']) (fun v hv => by
          simp only [List.mem_cons, List.not_mem_nil, or_false] at hv
          rcases hv with h1 | h1 <;> rw [h1] <;> rfl) (k := 2) (cs := wU (d16 (vO h (some ⟨b, o, none⟩) n * vO h (some ⟨b', o', none⟩) n'))) (ty := tU) (wU_lt _) (by kernel_rfl) r.w (by rfl) E0 (s := pair b b') (fitsR2 hx h5 h6 hy k5 k6)
        rw [evals] at fin
        exact fin
  · cases hg
end Go.Proofs.Ytnolcojnodoecaa

/-
  The document's product by a small number (tillerref02.Small): its pieces.
-/
namespace Go.Proofs.Ytnolcojnodoecaa
open Go.KRun Go.Nt
set_option maxRecDepth 100000
set_option linter.unusedVariables false

def sPre (F : Func) : List Code := [cFst (cBody F), cFst (cSnd (cBody F)), cFst (cSnd (cSnd (cBody F)))]
def sR3J (F : Func) : Code := cFst (cFst (cSnd (cSnd (cSnd (cBody F)))))
def sLoop (F : Func) : Code := cIn (cIn (cSnd (cFst (cSnd (cSnd (cSnd (cBody F)))))))
def sEnd (F : Func) : Code := cSnd (cSnd (cSnd (cSnd (cBody F))))
theorem usm_body : Try.f55.body = some (seqs (sPre Try.f55) (.seq (.seq (sR3J Try.f55) (.block 0 (.loop (sLoop Try.f55)))) (sEnd Try.f55))) := by kernel_rfl
def sv (A : List Int) (b c i : Int) : Int := IntKind.u64.wrap (c + IntKind.u64.wrap (IntKind.u64.wrap (atN A i) * IntKind.u64.wrap b))
def hs1' (x : List Value × TypeId) : Hp := ⟨1, [x]⟩
def hs2' (lo : List Value) (x : List Value × TypeId) : Hp := ⟨2, [(lo, tU), x]⟩
def sScr (w : Nat) : List Dec := match w with | 0 => [cmp true] | _ => [cmp false, cmp true]
def sLog (w : Nat) (n : Nat) (k i : Int) : Log := match w with | 0 => [(decide (i < n), true)] | _ => [(decide (k > 0), true), (decide (i < n), false)]
def rP' (h : Hp) (p : Option Addr) (n c : Nat) : Bool × Bool := (rowP h p n c, true)
theorem usm_pre (p : Option Addr) (n c : Nat) (b e : Int) (h : Hp) : GoesT (evL (tabH Try.prog extY conN hcV) 100 (sPre Try.f55) ([.slice p n c, .int .u32 b, .int .u32 e] ++ List.replicate 38 undef, h, []) ⟨[], [], []⟩) 9 32 none [.slice p n c, .int .u32 b, .int .u32 e, undef, undef, undef, nilS, nilS, .int .u64 (IntKind.u64.wrap e)] h [] := ⟨by kernel_rfl, by kernel_rfl, by kernel_rfl⟩
theorem usm_r3 (p : Option Addr) (n c : Nat) (b e k : Int) (h : Hp) (g : Nat → Value) : GoesT (evC (tabH Try.prog extY conN hcV) 100 false (sR3J Try.f55) ([.slice p n c, .int .u32 b, .int .u32 e, undef, undef, undef, nilS, nilS, .int .u64 k] ++ tl 32 g, h, []) ⟨[], [], []⟩) 10 31 none [.slice p n c, .int .u32 b, .int .u32 e, undef, undef, undef, nilS, nilS, .int .u64 k, .int .i64 0] h [] := ⟨by kernel_rfl, by kernel_rfl, by kernel_rfl⟩
theorem usm_nil0 (p : Option Addr) (n c : Nat) (b e k i : Int) (x : List Value × TypeId) (g : Nat → Value) : GoesT (evC (tabH Try.prog extY conN hcV) 100 false (sLoop Try.f55) ([.slice p n c, .int .u32 b, .int .u32 e, undef, undef, undef, nilS, nilS, .int .u64 k, .int .i64 i] ++ tl 31 g, hs1' x, sScr 0 ++ [cmp true]) ⟨[], [], []⟩) 10 31 none [.slice p n c, .int .u32 b, .int .u32 e, undef, undef, undef, nilS, sl 2 0 1 grown, .int .u64 (IntKind.u64.wrap ((sv (rowOf (hs1' x) p n) b k i).tdiv 65536)), .int .i64 (IntKind.i64.wrap (i + 1))] ⟨3, [([.int .u32 (IntKind.u32.wrap ((sv (rowOf (hs1' x) p n) b k i).tmod 65536))], tU), ([.int .u32 (IntKind.u32.wrap ((sv (rowOf (hs1' x) p n) b k i).tmod 65536))], tU), x]⟩ ((decide ((65536 : Int) = 0), false) :: rP' (hs1' x) p n c :: sLog 0 n k i) := ⟨by kernel_rfl, by kernel_rfl, by kernel_rfl⟩
theorem usm_nil1 (p : Option Addr) (n c : Nat) (b e k i : Int) (x : List Value × TypeId) (g : Nat → Value) : GoesT (evC (tabH Try.prog extY conN hcV) 100 false (sLoop Try.f55) ([.slice p n c, .int .u32 b, .int .u32 e, undef, undef, undef, nilS, nilS, .int .u64 k, .int .i64 i] ++ tl 31 g, hs1' x, sScr 1 ++ [cmp true]) ⟨[], [], []⟩) 10 31 none [.slice p n c, .int .u32 b, .int .u32 e, undef, undef, undef, nilS, sl 2 0 1 grown, .int .u64 (IntKind.u64.wrap ((sv (rowOf (hs1' x) p n) b k i).tdiv 65536)), .int .i64 (IntKind.i64.wrap (i + 1))] ⟨3, [([.int .u32 (IntKind.u32.wrap ((sv (rowOf (hs1' x) p n) b k i).tmod 65536))], tU), ([.int .u32 (IntKind.u32.wrap ((sv (rowOf (hs1' x) p n) b k i).tmod 65536))], tU), x]⟩ ((decide ((65536 : Int) = 0), false) :: rP' (hs1' x) p n c :: sLog 1 n k i) := ⟨by kernel_rfl, by kernel_rfl, by kernel_rfl⟩
theorem usm_some0 (p : Option Addr) (n c z : Nat) (b e k i : Int) (x : List Value × TypeId) (lo : List Value) (g : Nat → Value) : GoesT (evC (tabH Try.prog extY conN hcV) 100 false (sLoop Try.f55) ([.slice p n c, .int .u32 b, .int .u32 e, undef, undef, undef, nilS, sl 1 0 z grown, .int .u64 k, .int .i64 i] ++ tl 31 g, hs2' lo x, sScr 0 ++ [cmp true, at_]) ⟨[], [], []⟩) 10 31 none [.slice p n c, .int .u32 b, .int .u32 e, undef, undef, undef, nilS, sl 3 0 (z + 1) grown, .int .u64 (IntKind.u64.wrap ((sv (rowOf (hs2' lo x) p n) b k i).tdiv 65536)), .int .i64 (IntKind.i64.wrap (i + 1))] ⟨4, [(lo ++ [.int .u32 (IntKind.u32.wrap ((sv (rowOf (hs2' lo x) p n) b k i).tmod 65536))], tU), ([.int .u32 (IntKind.u32.wrap ((sv (rowOf (hs2' lo x) p n) b k i).tmod 65536))], tU), ([], 2 * dead), x]⟩ ((appChk tU (lo, tU) ([.int .u32 (IntKind.u32.wrap ((sv (rowOf (hs2' lo x) p n) b k i).tmod 65536))], tU) z 0 1, true) :: (decide ((65536 : Int) = 0), false) :: rP' (hs2' lo x) p n c :: sLog 0 n k i) := ⟨by kernel_rfl, by kernel_rfl, by kernel_rfl⟩
theorem usm_some1 (p : Option Addr) (n c z : Nat) (b e k i : Int) (x : List Value × TypeId) (lo : List Value) (g : Nat → Value) : GoesT (evC (tabH Try.prog extY conN hcV) 100 false (sLoop Try.f55) ([.slice p n c, .int .u32 b, .int .u32 e, undef, undef, undef, nilS, sl 1 0 z grown, .int .u64 k, .int .i64 i] ++ tl 31 g, hs2' lo x, sScr 1 ++ [cmp true, at_]) ⟨[], [], []⟩) 10 31 none [.slice p n c, .int .u32 b, .int .u32 e, undef, undef, undef, nilS, sl 3 0 (z + 1) grown, .int .u64 (IntKind.u64.wrap ((sv (rowOf (hs2' lo x) p n) b k i).tdiv 65536)), .int .i64 (IntKind.i64.wrap (i + 1))] ⟨4, [(lo ++ [.int .u32 (IntKind.u32.wrap ((sv (rowOf (hs2' lo x) p n) b k i).tmod 65536))], tU), ([.int .u32 (IntKind.u32.wrap ((sv (rowOf (hs2' lo x) p n) b k i).tmod 65536))], tU), ([], 2 * dead), x]⟩ ((appChk tU (lo, tU) ([.int .u32 (IntKind.u32.wrap ((sv (rowOf (hs2' lo x) p n) b k i).tmod 65536))], tU) z 0 1, true) :: (decide ((65536 : Int) = 0), false) :: rP' (hs2' lo x) p n c :: sLog 1 n k i) := ⟨by kernel_rfl, by kernel_rfl, by kernel_rfl⟩
theorem usm_out (p : Option Addr) (n c : Nat) (b e k i : Int) (v : Value) (h : Hp) (g : Nat → Value) : GoesT (evC (tabH Try.prog extY conN hcV) 100 false (sLoop Try.f55) ([.slice p n c, .int .u32 b, .int .u32 e, undef, undef, undef, nilS, v, .int .u64 k, .int .i64 i] ++ tl 31 g, h, [cmp false, cmp false]) ⟨[], [], []⟩) 10 31 (some (some 0)) [.slice p n c, .int .u32 b, .int .u32 e, undef, undef, undef, nilS, v, .int .u64 k, .int .i64 i] h [(decide (k > 0), false), (decide (i < n), false)] := ⟨by kernel_rfl, by kernel_rfl, by kernel_rfl⟩
theorem usm_end (p : Option Addr) (n c z : Nat) (b e k i : Int) (x : List Value × TypeId) (lo : List Value) (g : Nat → Value) : GoesT (evC (tabH Try.prog extY conN hcV) 100 false (sEnd Try.f55) ([.slice p n c, .int .u32 b, .int .u32 e, undef, undef, undef, nilS, sl 1 0 z grown, .int .u64 k, .int .i64 i] ++ tl 31 g, hs2' lo x, []) ⟨[], [], []⟩) 7 34 (some none) [.slice p n c, .int .u32 b, .int .u32 e, undef, undef, undef, sl 1 0 (trimN (cutI lo 0 z)) (trimN (cutI lo 0 z))] (hs2' lo x) [(rowC tU lo 0 z grown, true)] := ⟨by kernel_rfl, by kernel_rfl, by kernel_rfl⟩
theorem usm_empty (p : Option Addr) (n c : Nat) (b e : Int) (h : Hp) : GoesT (evC (tabH Try.prog extY conN hcV) 100 false (cBody Try.f55) ([.slice p n c, .int .u32 b, .int .u32 e] ++ List.replicate 38 undef, h, [cmp false, cmp false]) ⟨[], [], []⟩) 7 34 (some none) [.slice p n c, .int .u32 b, .int .u32 e, undef, undef, undef, nilS] h [(decide (IntKind.u64.wrap e > 0), false), (decide ((0 : Int) < n), false)] := ⟨by kernel_rfl, by kernel_rfl, by kernel_rfl⟩
end Go.Proofs.Ytnolcojnodoecaa

/-
  The document's product by a small number (tillerref02.Small), as a contract.
-/
namespace Go.Proofs.Ytnolcojnodoecaa
open Go.KRun Go.Nt
set_option maxRecDepth 100000
set_option linter.unusedVariables false

theorem wrap64s {n : Int} (h0 : 0 ≤ n) (h1 : n < 18446744073709551616) : IntKind.u64.wrap n = n := by simp [IntKind.wrap, IntKind.bits, IntKind.signed]; omega
theorem sv_eq {A : List Int} (hA : ∀ x ∈ A, Dg 65536 x) {b k : Nat} (hb : b < 65536) (hk : k < 65536) (i : Nat) : sv A b k i = ((k + dgN A i * b : Nat) : Int) := by
  have h1 := (dgN_lt hA i).1
  have h2 := (dgN_lt hA i).2
  have hp : dgN A i * b ≤ 65535 * 65535 := Nat.mul_le_mul (by omega) (by omega)
  have e0 : atN A (i : Int) = ((dgN A i : Nat) : Int) := by
    have := at_dg hA i
    rw [atN_nat]
    unfold dgN
    have := this.1
    omega
  unfold sv
  rw [e0, wrap64s (n := ((dgN A i : Nat) : Int)) (by omega) (by omega), wrap64s (n := (b : Int)) (by omega) (by omega)]
  have e1 : ((dgN A i : Nat) : Int) * (b : Int) = ((dgN A i * b : Nat) : Int) := by simp
  rw [e1, wrap64s (n := ((dgN A i * b : Nat) : Int)) (by omega) (by omega), wrap64s (by omega) (by omega)]
  omega
theorem small_step {O : List Int} {A : List Int} {i k b e : Nat} (hO : O.length = i) (h : vb 65536 O + 65536 ^ i * k = vb 65536 (A.take i) * b + e) :
    vb 65536 (O ++ [(((k + dgN A i * b) % 65536 : Nat) : Int)]) + 65536 ^ (i + 1) * ((k + dgN A i * b) / 65536) = vb 65536 (A.take (i + 1)) * b + e := by
  rw [vb_snoc, hO, Int.toNat_natCast, vb_take, Nat.add_mul]
  have h2 := Nat.div_add_mod (k + dgN A i * b) 65536
  have h3 : 65536 ^ i * (k + dgN A i * b) = 65536 ^ i * (65536 * ((k + dgN A i * b) / 65536)) + 65536 ^ i * ((k + dgN A i * b) % 65536) := by rw [← Nat.mul_add, h2]
  have h4 : 65536 ^ i * (k + dgN A i * b) = 65536 ^ i * k + 65536 ^ i * (dgN A i * b) := Nat.mul_add _ _ _
  have h5 : 65536 ^ (i + 1) * ((k + dgN A i * b) / 65536) = 65536 ^ i * (65536 * ((k + dgN A i * b) / 65536)) := by rw [Nat.pow_succ, Nat.mul_assoc]
  have h6 : 65536 ^ i * (A.getD i 0).toNat * b = 65536 ^ i * (dgN A i * b) := by rw [Nat.mul_assoc]; rfl
  rw [h5, h6]
  omega
section
variable {x : List Value × TypeId} {p : Option Addr} {n c : Nat} {A : List Int}
theorem kept_one (NA : Nu 0 x p n c A) {h : Hp} (h0 : h.blk? 0 = some x) : ∀ i z, (⟨1, [x]⟩ : Hp).blk? i = some z → h.blk? i = some z ∧ ∀ v ∈ z.1, still v = true := fun i z hz => by
  have hi : i = 0 := by have : i < 1 := Hp.blk_lt hz; omega
  subst hi
  have : z = x := (Option.some.inj hz).symm
  subst this
  exact ⟨h0, NA.st⟩
def sFr (p : Option Addr) (n c : Nat) (b e : Nat) (out : Value) (k i : Nat) : List Value := [.slice p n c, .int .u32 ((b : Nat) : Int), .int .u32 ((e : Nat) : Int), undef, undef, undef, nilS, out, .int .u64 ((k : Nat) : Int), .int .i64 ((i : Nat) : Int)]
def sStJ (x : List Value × TypeId) (p : Option Addr) (n c b e : Nat) (O : List Int) (i k : Nat) (Y : Lf) : Prop :=
  (i = 0 ∧ (∃ g, Y.1 = sFr p n c b e nilS k i ++ tl 31 g) ∧ Y.2.1 = hs1' x) ∨ (0 < i ∧ (∃ g, Y.1 = sFr p n c b e (sl 1 0 i grown) k i ++ tl 31 g) ∧ Y.2.1 = hs2' (wU O) x)
theorem usm_round (NA : Nu 0 x p n c A) (hA : ∀ x ∈ A, Dg 65536 x) {b e k i : Nat} (hb : b < 65536) {O : List Int} (hk : k < 65536) (hi : i < 1073741823) (hO : O.length = i) (hgo : i < n ∨ 0 < k) {Y : Lf} (hY : sStJ x p n c b e O i k Y) :
    RunsW (tabH Try.prog extY conN hcV) (sLoop Try.f55) Y fun ex z => ex = none ∧ (∃ g, z.1 = sFr p n c b e (sl 1 0 (i + 1) grown) ((k + dgN A i * b) / 65536) (i + 1) ++ tl 31 g) ∧ z.2.1 = hs2' (wU (O ++ [(((k + dgN A i * b) % 65536 : Nat) : Int)])) x := by
  obtain ⟨t, h', s⟩ := Y
  have hd1 := (dgN_lt hA i).1
  have hp : dgN A i * b ≤ 65535 * 65535 := Nat.mul_le_mul (by omega) (by omega)
  have es := sv_eq hA hb hk i
  have e1 : IntKind.u32.wrap ((sv A b k i).tmod 65536) = (((k + dgN A i * b) % 65536 : Nat) : Int) := by rw [es, Int.tmod_eq_emod_of_nonneg (by omega), wrap32 (by omega) (by omega)]; omega
  have e2 : IntKind.u64.wrap ((sv A b k i).tdiv 65536) = (((k + dgN A i * b) / 65536 : Nat) : Int) := by rw [es, Int.tdiv_eq_ediv_of_nonneg (by omega), wrap64s (by omega) (by omega)]; omega
  have e3 : IntKind.i64.wrap ((i : Int) + 1) = ((i + 1 : Nat) : Int) := by rw [wrapI (by omega) (by omega)]; omega
  have hw : ∃ w, w ≤ 1 ∧ okLog (sLog w n k i) := by
    by_cases ha : i < n
    · exact ⟨0, by omega, okOne (decide_eq_true (by omega))⟩
    · exact ⟨1, by omega, okW (decide_eq_true (by omega)) (okOne (decide_eq_false (by omega)))⟩
  obtain ⟨w, hw1, hl⟩ := hw
  rcases hY with ⟨h0, ⟨g, ht⟩, hh⟩ | ⟨h0, ⟨g, ht⟩, hh⟩
  · simp only at ht hh
    subst ht hh
    have r0 := NA.row (hs1' x) rfl
    have hO' : O = [] := List.length_eq_zero_iff.1 (by omega)
    have fin : RunsW (tabH Try.prog extY conN hcV) (sLoop Try.f55) (sFr p n c b e nilS k i ++ tl 31 g, hs1' x, s) fun ex z => ex = none ∧ (∃ g, z.1 = [.slice p n c, .int .u32 ((b : Nat) : Int), .int .u32 ((e : Nat) : Int), undef, undef, undef, nilS, sl 2 0 1 grown, .int .u64 (IntKind.u64.wrap ((sv A b k i).tdiv 65536)), .int .i64 (IntKind.i64.wrap ((i : Int) + 1))] ++ tl 31 g) ∧ z.2.1 = ⟨3, [([.int .u32 (IntKind.u32.wrap ((sv A b k i).tmod 65536))], tU), ([.int .u32 (IntKind.u32.wrap ((sv A b k i).tmod 65536))], tU), x]⟩ := by
      match w, hw1, hl with
      | 0, _, hl =>
        have := goesT_runsW (tabH_ok conN_ok hcV_ok) (s0 := s) (usm_nil0 p n c b e k i x g) (okW rfl (okW r0.1 hl))
        rw [r0.2] at this
        exact this
      | 1, _, hl =>
        have := goesT_runsW (tabH_ok conN_ok hcV_ok) (s0 := s) (usm_nil1 p n c b e k i x g) (okW rfl (okW r0.1 hl))
        rw [r0.2] at this
        exact this
    rw [e1, e2, e3] at fin
    have := fin.kept (k := 1) (b := 2) (base := [x]) (y := ([.int .u32 (((k + dgN A i * b) % 65536 : Nat) : Int)], tU)) (front' := sFr p n c b e (sl 1 0 1 grown) ((k + dgN A i * b) / 65536) (i + 1)) rfl
      (by simp only [sFr, List.map_cons, List.map_nil, NA.rn (f := keepK 1 2) rfl]; kernel_rfl) (kept_one NA rfl) rfl (by omega) (fun v hv => by rw [List.mem_singleton.1 hv]; rfl) (fun v hv => by
        simp only [sFr, List.mem_cons, List.not_mem_nil, or_false] at hv
        rcases hv with rfl | rfl | rfl | rfl | rfl | rfl | rfl | rfl | rfl | rfl
        · exact NA.lt (by omega)
        all_goals rfl)
    refine this.mono fun ex z hz => ?_
    obtain ⟨rfl, ⟨g', q1⟩, q2⟩ := hz
    subst hO' h0
    exact ⟨rfl, ⟨g', q1⟩, q2⟩
  · simp only at ht hh
    subst ht hh
    have r0 := NA.row (hs2' (wU O) x) rfl
    have hchk : appChk tU (wU O, tU) ([.int .u32 (IntKind.u32.wrap ((sv A b k i).tmod 65536))], tU) i 0 1 = true :=
      appChk_of (L := O) (M := [IntKind.u32.wrap ((sv A b k i).tmod 65536)]) hO.symm (show 0 < 1 by omega) (by show O.length + 1 ≤ _; omega)
    have fin : RunsW (tabH Try.prog extY conN hcV) (sLoop Try.f55) (sFr p n c b e (sl 1 0 i grown) k i ++ tl 31 g, hs2' (wU O) x, s) fun ex z => ex = none ∧ (∃ g, z.1 = [.slice p n c, .int .u32 ((b : Nat) : Int), .int .u32 ((e : Nat) : Int), undef, undef, undef, nilS, sl 3 0 (i + 1) grown, .int .u64 (IntKind.u64.wrap ((sv A b k i).tdiv 65536)), .int .i64 (IntKind.i64.wrap ((i : Int) + 1))] ++ tl 31 g) ∧ z.2.1 = ⟨4, [(wU O ++ [.int .u32 (IntKind.u32.wrap ((sv A b k i).tmod 65536))], tU), ([.int .u32 (IntKind.u32.wrap ((sv A b k i).tmod 65536))], tU), ([], 2 * dead), x]⟩ := by
      match w, hw1, hl with
      | 0, _, hl =>
        have := goesT_runsW (tabH_ok conN_ok hcV_ok) (s0 := s) (usm_some0 p n c i b e k i x (wU O) g) (by rw [r0.2]; exact okW hchk (okW rfl (okW r0.1 hl)))
        rw [r0.2] at this
        exact this
      | 1, _, hl =>
        have := goesT_runsW (tabH_ok conN_ok hcV_ok) (s0 := s) (usm_some1 p n c i b e k i x (wU O) g) (by rw [r0.2]; exact okW hchk (okW rfl (okW r0.1 hl)))
        rw [r0.2] at this
        exact this
    rw [e1, e2, e3] at fin
    have ew : wU O ++ [.int .u32 (((k + dgN A i * b) % 65536 : Nat) : Int)] = wU (O ++ [(((k + dgN A i * b) % 65536 : Nat) : Int)]) := by rw [wU_append]; rfl
    rw [ew] at fin
    have := fin.kept (k := 1) (b := 3) (base := [x]) (y := (wU (O ++ [(((k + dgN A i * b) % 65536 : Nat) : Int)]), tU)) (front' := sFr p n c b e (sl 1 0 (i + 1) grown) ((k + dgN A i * b) / 65536) (i + 1)) rfl
      (by simp only [sFr, List.map_cons, List.map_nil, NA.rn (f := keepK 1 3) rfl]; kernel_rfl) (kept_one NA rfl) rfl (by omega) (wU_still _) (fun v hv => by
        simp only [sFr, List.mem_cons, List.not_mem_nil, or_false] at hv
        rcases hv with rfl | rfl | rfl | rfl | rfl | rfl | rfl | rfl | rfl | rfl
        · exact NA.lt (by omega)
        all_goals rfl)
    exact this
def sInvJ (x : List Value × TypeId) (p : Option Addr) (n c : Nat) (A : List Int) (b e m : Nat) (Y : Lf) : Prop :=
  ∃ (i k : Nat) (O : List Int), O.length = i ∧ m = n + 1 - i ∧ i ≤ n + 1 ∧ k < 65536 ∧ (i = n + 1 → k = 0) ∧ (∀ x ∈ O, Dg 65536 x) ∧ vb 65536 O + 65536 ^ i * k = vb 65536 (A.take i) * b + e ∧ sStJ x p n c b e O i k Y
def sFinJ (x : List Value × TypeId) (p : Option Addr) (n c : Nat) (A : List Int) (b e : Nat) (Y : Lf) : Prop :=
  ∃ (i : Nat) (O : List Int), O.length = i ∧ i ≤ n + 1 ∧ (∀ x ∈ O, Dg 65536 x) ∧ vb 65536 O = vb 65536 A * b + e ∧ n ≤ i ∧ sStJ x p n c b e O i 0 Y
theorem usm_loop (NA : Nu 0 x p n c A) (lA : A.length = n) (hA : ∀ x ∈ A, Dg 65536 x) {b e : Nat} (hb : b < 65536) (he : e < 65536) (hn : n + 2 < 1073741824) (g : Nat → Value) :
    RunsW (tabH Try.prog extY conN hcV) (.block 0 (.loop (sLoop Try.f55))) (sFr p n c b e nilS e 0 ++ tl 31 g, hs1' x, []) fun ex Y => match ex with | none => sFinJ x p n c A b e Y | some none => False | some (some _) => False := by
  refine RunsW.forLoop (P := sFinJ x p n c A b e) (R := fun _ => False) (sInvJ x p n c A b e) ?_ (n := n + 1) ⟨0, e, [], rfl, by omega, by omega, he, by omega, (fun x hx => by cases hx), by simp [vb], .inl ⟨rfl, ⟨g, rfl⟩, rfl⟩⟩
  rintro m Y ⟨i, k, O, hO, hm, hi, hk, hk0, hOd, hval, hY⟩
  by_cases hgo : i < n ∨ 0 < k
  · have hmx : i ≤ n := by
      rcases Nat.lt_or_ge i (n + 1) with h | h
      · omega
      · have : k = 0 := hk0 (by omega)
        omega
    have r := usm_round NA hA (e := e) hb hk (by omega) hO hgo hY
    refine r.mono fun ex z hz => ?_
    obtain ⟨rfl, z1, z2⟩ := hz
    have d1 := (dgN_lt hA i).1
    have hp : dgN A i * b ≤ 65535 * 65535 := Nat.mul_le_mul (by omega) (by omega)
    refine ⟨n + 1 - (i + 1), by omega, i + 1, (k + dgN A i * b) / 65536, O ++ [(((k + dgN A i * b) % 65536 : Nat) : Int)], by simp [hO], rfl, by omega, by omega, fun he' => ?_, fun x hx => ?_, small_step hO hval, .inr ⟨by omega, z1, z2⟩⟩
    · have z1 : dgN A i = 0 := dgN_out (by omega)
      rw [z1]
      omega
    · rcases List.mem_append.1 hx with hx | hx
      · exact hOd x hx
      · rw [List.mem_singleton.1 hx]
        exact ⟨by omega, by omega⟩
  · have hk : k = 0 := by omega
    subst hk
    have ha : n ≤ i := by omega
    have out : ∀ (v : Value) (h : Hp) (g : Nat → Value) (s : List Dec), RunsW (tabH Try.prog extY conN hcV) (sLoop Try.f55) (sFr p n c b e v 0 i ++ tl 31 g, h, s) fun ex z => ex = some (some 0) ∧ (∃ g, z.1 = sFr p n c b e v 0 i ++ tl 31 g) ∧ z.2.1 = h := fun v h g s =>
      goesT_runsW (tabH_ok conN_ok hcV_ok) (usm_out p n c b e 0 i v h g) (okW rfl (okOne (decide_eq_false (by omega))))
    have hv : vb 65536 O = vb 65536 A * b + e := by
      rw [List.take_of_length_le (by omega)] at hval
      omega
    obtain ⟨t, h', s⟩ := Y
    rcases hY with ⟨h0, ⟨g, ht⟩, hh⟩ | ⟨h0, ⟨g, ht⟩, hh⟩
    · simp only at ht hh
      subst ht hh
      refine (out nilS _ g s).mono fun ex z hz => ?_
      obtain ⟨rfl, z1, z2⟩ := hz
      exact ⟨rfl, i, O, hO, hi, hOd, hv, ha, .inl ⟨h0, z1, z2⟩⟩
    · simp only at ht hh
      subst ht hh
      refine (out (sl 1 0 i grown) _ g s).mono fun ex z hz => ?_
      obtain ⟨rfl, z1, z2⟩ := hz
      exact ⟨rfl, i, O, hO, hi, hOd, hv, ha, .inr ⟨h0, z1, z2⟩⟩
theorem usm_runs (NA : Nu 0 x p n c A) (lA : A.length = n) (hA : ∀ x ∈ A, Dg 65536 x) {b e : Nat} (hb : b < 65536) (he : e < 65536) (hn : n + 2 < 1073741824) (h0 : 0 < n ∨ 0 < e) {V : Nat} (hV : V = vb 65536 A * b + e) :
    RunsW (tabH Try.prog extY conN hcV) (seqs (sPre Try.f55) (.seq (.seq (sR3J Try.f55) (.block 0 (.loop (sLoop Try.f55)))) (sEnd Try.f55))) ([.slice p n c, .int .u32 ((b : Nat) : Int), .int .u32 ((e : Nat) : Int)] ++ List.replicate 38 undef, hs1' x, []) fun ex z => (ex = none ∨ ex = some none) ∧ resS Try.prog Try.f55 z.1 z.2.1 = some (sl 1 0 (d16 V).length (d16 V).length) ∧ ∃ r, z.2.1.blk? 1 = some (wU (d16 V) ++ r, tU) := by
  refine goesT_listW (tabH_ok conN_ok hcV_ok) (usm_pre p n c b e (hs1' x)) (fun x hx => by cases hx) fun g => ?_
  have ee : IntKind.u64.wrap ((e : Nat) : Int) = ((e : Nat) : Int) := wrap64s (by omega) (by omega)
  rw [ee]
  refine seqW3 (goesT_runsW (tabH_ok conN_ok hcV_ok) (usm_r3 p n c b e e (hs1' x) g) (fun x hx => by cases hx)) (fun ex y he => by cases he.1) (P2 := fun ex Y => match ex with | none => sFinJ x p n c A b e Y | some none => False | some (some _) => False) ?_ ?_ ?_
  · rintro ⟨t, h', s⟩ ⟨_, ⟨g', ht⟩, hh⟩
    simp only at ht hh
    subst ht hh
    exact RunsW.script (usm_loop NA lA hA hb he hn g')
  · intro ex y hy
    match ex, hy with
    | none, hy => exact hy
    | some id, hy => exact hy
  · rintro ⟨t, h', s⟩ ⟨i, O, hO, hi, hOd, hv, ha, hY⟩
    rcases hY with ⟨e0, _⟩ | ⟨_, ⟨g', ht⟩, hh⟩
    · exfalso
      have hO' : O = [] := List.length_eq_zero_iff.1 (by omega)
      rw [hO'] at hv
      have : vb 65536 [] = 0 := rfl
      omega
    · simp only at ht hh
      subst ht hh
      have hrow : rowC tU (wU O) 0 i grown = true := by
        rw [← hO]
        exact rowC_wU (fun x hx => ⟨(hOd x hx).1, by have := (hOd x hx).2; omega⟩) (by omega) (capG _)
      refine (goesT_runsW (tabH_ok conN_ok hcV_ok) (usm_end p n c i b e 0 i x (wU O) g') (okOne hrow)).mono fun ex z hz => ?_
      obtain ⟨rfl, ⟨g2, e1⟩, e2⟩ := hz
      have et : trimN (cutI (wU O) 0 i) = (d16 V).length := by
        rw [← hO, cut_wU, trim_len (by omega) hOd, hv, ← hV]
        rfl
      refine ⟨.inr rfl, ?_, ?_⟩
      · rw [e1, e2, et]
        rfl
      · rw [e2]
        refine ⟨wU (O.drop (trimN O)), ?_⟩
        have e3 : wU (d16 V) ++ wU (O.drop (trimN O)) = wU O := by
          unfold d16
          rw [hV, ← hv, ← take_trim (by omega) _ hOd, ← wU_append, List.take_append_drop]
        rw [e3]
        rfl
theorem rows_hs1 (NA : Nu 0 x p n c A) : (hs1' x).rows := by
  refine ⟨rfl, fun b z hz => ?_⟩
  have hb : b = 0 := by have : b < 1 := Hp.blk_lt hz; omega
  subst hb
  have : z = x := (Option.some.inj hz).symm
  subst this
  exact ⟨NA.ros.1, NA.lt0, NA.ros.2⟩
theorem fits_hs1 {h : Hp} {a : Nat} (hx : tomb x.2 = false → ∃ z r, h.blk? a = some z ∧ tomb z.2 = false ∧ rt z.2 = rt x.2 ∧ z.1 = x.1 ++ r) : (hs1' x).fits (fun _ => a) h := by
  intro i z hz ht
  have hb : i = 0 := by have : i < 1 := Hp.blk_lt hz; omega
  subst hb
  have : z = x := (Option.some.inj hz).symm
  subst this
  exact hx ht
end
theorem usm_body1 : Try.f55.body = some (cBody Try.f55) := by kernel_rfl
def okSml (h : Hp) (p : Option Addr) (n c : Nat) (b e : Int) : Bool := rowP h p n c && dgB (rowOf h p n) && Nat.blt (n + 2) 1073741824 && decide ((0 ≤ b ∧ b < 65536) ∧ (0 ≤ e ∧ e < 65536))
def gUsm : AnsH := fun vals h s =>
  match vals, s with
  | [.slice p n c, .int .u32 b, .int .u32 e], .inr (.inr (.inr (.inl d))) :: s' =>
    match d with
    | true => mk16 (vO h p n * b.toNat + e.toNat) h s' [(okSml h p n c b e, true), (decide (0 < n ∨ 0 < e), true)]
    | false => some (nilS, h, s', [(okSml h p n c b e, true), (decide (0 < n ∨ 0 < e), false)])
  | _, _ => none
theorem gUsm_ok : AnsHOk 55 gUsm := by
  intro vals h s v h' s' lg hg hl m B w E hv
  unfold gUsm at hg
  split at hg
  · rename_i p n c b e d s2
    have key : okSml h p n c b e = true → ∃ b' e' : Nat, b = (b' : Int) ∧ e = (e' : Int) ∧ b' < 65536 ∧ e' < 65536 ∧ rowP h p n c = true ∧ (∀ x ∈ rowOf h p n, Dg 65536 x) ∧ n + 2 < 1073741824 := fun hk => by
      simp only [okSml, Bool.and_eq_true, decide_eq_true_eq] at hk
      obtain ⟨⟨⟨r1, r2⟩, r3⟩, r4⟩ := hk
      exact ⟨b.toNat, e.toNat, by omega, by omega, by omega, by omega, r1, dgB_of r2, blt_iff.1 r3⟩
    split at hg
    · unfold mk16 at hg
      cases hg
      have q1 := hl _ (List.mem_cons_self)
      have q2 := hl _ (List.mem_cons_of_mem _ (List.mem_singleton.2 rfl))
      simp only [decide_eq_true_eq] at q2
      obtain ⟨b', e', rfl, rfl, hb, he, r1, r2, r3⟩ := key q1
      rw [Int.toNat_natCast, Int.toNat_natCast]
      obtain ⟨x, p', a, NA, eA, fA⟩ := nu_of 0 r1
      have r := usm_runs NA (rowOf_len r1) r2 hb he r3 (by omega) rfl
      have := row_calls1 (T := tabH Try.prog extY conN hcV) Try.func55 usm_body (rows_hs1 NA) (vals := [.slice p' n c, .int .u32 ((b' : Nat) : Int), .int .u32 ((e' : Nat) : Int)]) (fun v hv => by
        simp only [List.mem_cons, List.not_mem_nil, or_false] at hv
        rcases hv with rfl | rfl | rfl
        · exact NA.lt (by show 0 < 1; omega)
        all_goals rfl) (k := 1) (cs := wU (d16 (vO h p n * b' + e'))) (ty := tU) (wU_lt _) (by kernel_rfl) r (by rfl) E (s := fun _ => a) (fits_hs1 fA)
      simp only [List.map_cons, List.map_nil] at this
      rw [eA _ rfl] at this
      exact this
    · cases hg
      have q1 := hl _ (List.mem_cons_self)
      have q2 := hl _ (List.mem_cons_of_mem _ (List.mem_singleton.2 rfl))
      simp only [decide_eq_false_iff_not] at q2
      obtain ⟨b', e', rfl, rfl, hb, he, r1, r2, r3⟩ := key q1
      obtain ⟨x, p', a, NA, eA, fA⟩ := nu_of 0 r1
      have hr : Runs (tabH Try.prog extY conN hcV) (cBody Try.f55) ([.slice p' n c, .int .u32 ((b' : Nat) : Int), .int .u32 ((e' : Nat) : Int)] ++ List.replicate 38 undef, hs1' x, []) fun ex z => (ex = none ∨ ex = some none) ∧ resS Try.prog Try.f55 z.1 z.2.1 = some nilS := by
        refine (goesT_runs (tabH_ok conN_ok hcV_ok) (usm_empty p' n c b' e' _) (okW (decide_eq_false (by rw [wrap64s (by omega) (by omega)]; omega)) (okOne (decide_eq_false (by omega))))).mono fun ex z he => ?_
        obtain ⟨rfl, ⟨g, e2⟩, e3⟩ := he
        refine ⟨.inr rfl, ?_⟩
        rw [e2, e3]
        rfl
      have := row_calls0 (T := tabH Try.prog extY conN hcV) Try.func55 usm_body1 (rows_hs1 NA) (vals := [.slice p' n c, .int .u32 ((b' : Nat) : Int), .int .u32 ((e' : Nat) : Int)]) (fun v hv => by
        simp only [List.mem_cons, List.not_mem_nil, or_false] at hv
        rcases hv with rfl | rfl | rfl
        · exact NA.lt (by show 0 < 1; omega)
        all_goals rfl) (v := nilS) (by rfl) hr.w E (s := fun _ => a) (fits_hs1 fA)
      simp only [List.map_cons, List.map_nil] at this
      rw [eA _ rfl] at this
      exact this
  · cases hg
end Go.Proofs.Ytnolcojnodoecaa
