/-
  PLAIN ARITHMETIC: a product of digits to the base 65536, row by row.
-/
import Derived.Test.YtecemjilmlagdaaDoorG24
import Derived.Test.YtecemjilmlagdaaDoorG16
import Derived.Test.YtecemjilmlagdaaDoorG09
import Derived.Test.YtecemjilmlagdaaDoorG15
namespace Go.Nt

theorem vb_set {b : Nat} : ∀ {L : List Int} {j : Nat}, j < L.length → ∀ v : Int, vb b (L.set j v) + b ^ j * (L.getD j 0).toNat = vb b L + b ^ j * v.toNat
  | [], _, h, _ => by simp at h
  | x :: L, 0, _, v => by simp [vb]; omega
  | x :: L, j + 1, h, v => by
    have ih := vb_set (b := b) (L := L) (j := j) (by simpa using h) v
    have e : (x :: L).getD (j + 1) 0 = L.getD j 0 := by simp [List.getD]
    simp only [List.set, vb, e]
    have h2 := congrArg (fun t => b * t) ih
    simp only [Nat.mul_add] at h2
    rw [Nat.pow_succ, Nat.mul_comm (b ^ j) b, Nat.mul_assoc, Nat.mul_assoc]
    omega
theorem set_dg {L : List Int} (h : ∀ x ∈ L, Dg 65536 x) {v : Int} (hv : Dg 65536 v) (j : Nat) : ∀ x ∈ L.set j v, Dg 65536 x := fun x hx => by
  rcases List.mem_or_eq_of_mem_set hx with hx | rfl
  · exact h x hx
  · exact hv
/-- one step: what is carried, a digit and a product -/
theorem mul_step {L : List Int} {j : Nat} (hj : j < L.length) (hL : ∀ x ∈ L, Dg 65536 x) {c p q : Nat} (hc : c < 65536) (hp : p < 65536) (hq : q < 65536) :
    let t := c + (L.getD j 0).toNat + p * q
    vb 65536 (L.set j ((t % 65536 : Nat) : Int)) + t / 65536 * 65536 ^ (j + 1) = vb 65536 L + c * 65536 ^ j + p * q * 65536 ^ j ∧ t / 65536 < 65536 ∧ (∀ x ∈ L.set j ((t % 65536 : Nat) : Int), Dg 65536 x) := by
  intro t
  have hd : (L.getD j 0).toNat < 65536 := dg_lt hL j
  have hpq : p * q ≤ 65535 * 65535 := Nat.mul_le_mul (by omega) (by omega)
  have ht : t = c + (L.getD j 0).toNat + p * q := rfl
  refine ⟨?_, by omega, set_dg hL ⟨by omega, by omega⟩ j⟩
  have h1 := vb_set (b := 65536) hj ((t % 65536 : Nat) : Int)
  rw [Int.toNat_natCast] at h1
  have h2 := Nat.div_add_mod t 65536
  have h3 : 65536 ^ j * t = 65536 ^ j * (65536 * (t / 65536)) + 65536 ^ j * (t % 65536) := by rw [← Nat.mul_add, h2]
  have h4 : 65536 ^ j * t = 65536 ^ j * c + 65536 ^ j * (L.getD j 0).toNat + 65536 ^ j * (p * q) := by rw [ht, Nat.mul_add, Nat.mul_add]
  have h5 : t / 65536 * 65536 ^ (j + 1) = 65536 ^ j * (65536 * (t / 65536)) := by rw [Nat.pow_succ, Nat.mul_comm, Nat.mul_assoc]
  rw [h5, Nat.mul_comm c, Nat.mul_comm (p * q)]
  omega
end Go.Nt

/-
  The document's product (tillerref02.Mul): its pieces.
-/
namespace Go.Proofs.YtecemjilmlagdaaDoor
open Go.KRun Go.Nt
set_option maxRecDepth 100000
set_option linter.unusedVariables false

def muB (F : Func) : Code := cFst (cSnd (cSnd (cBody F)))
def muO (F : Func) : Code := cIn (cIn (cSnd (muB F)))
def muI (F : Func) : Code := cIn (cFst (cSnd (muO F)))
def muL (F : Func) : Code := cIn (cIn (cSnd (cFst (cSnd (muI F)))))
def muPr (F : Func) : List Code := [cFst (cBody F), cFst (cSnd (cBody F))]
def muE (F : Func) : Code := cSnd (cSnd (cSnd (cBody F)))
theorem umul_body : Tryd.f23.body = some (seqs (muPr Tryd.f23) (.seq (.seq (cFst (muB Tryd.f23)) (.block 0 (.loop (muO Tryd.f23)))) (muE Tryd.f23))) := by kernel_rfl
theorem umul_out : muO Tryd.f23 = .seq (cFst (muO Tryd.f23)) (.seq (.block 1 (muI Tryd.f23)) (cSnd (cSnd (muO Tryd.f23)))) := by kernel_rfl
theorem umul_row : muI Tryd.f23 = .seq (cFst (muI Tryd.f23)) (.seq (.seq (cFst (cFst (cSnd (muI Tryd.f23)))) (.block 2 (.loop (muL Tryd.f23)))) (cSnd (cSnd (muI Tryd.f23)))) := by kernel_rfl
def mFr (o n c o' n' c' z : Nat) (i v7 v8 : Value) : List Value := [sl 0 o n c, sl 1 o' n' c', undef, undef, nilS, sl 2 0 z z, i, v7, v8]
def hM3 (lo lb la : List Value) : Hp := ⟨3, [(lo, tU), (lb, tR), (la, tR)]⟩
def zM (n n' : Nat) : Int := IntKind.i64.wrap ((n : Int) + n')
def inM (j : Int) (n : Nat) : Bool × Bool := (decide (0 ≤ j ∧ j < (n : Int)), true)
def ceM (l : List Value) (o : Nat) (j x : Int) : Bool × Bool := (cellIs (l[o + j.toNat * 1]?) (.int .u32 x), true)
def stM (l : List Value) (j : Int) : Bool × Bool := (decide (0 + j.toNat * 1 < l.length), true)
def d65 : Bool × Bool := (decide ((65536 : Int) = 0), false)
def tM (c7 d p q : Int) : Int := IntKind.u64.wrap (IntKind.u64.wrap (c7 + IntKind.u64.wrap d) + IntKind.u64.wrap (IntKind.u64.wrap p * IntKind.u64.wrap q))
def ijM (i k : Int) : Int := IntKind.i64.wrap (i + k)
theorem mu_pre (o n c o' n' c' : Nat) (la lb : List Value) : GoesT (evL (tabH Tryd.prog extY conN hcV) 200 (muPr Tryd.f23) ([sl 0 o n c, sl 1 o' n' c'] ++ List.replicate 66 undef, h2 la lb, [at_]) ⟨[], [], []⟩) 6 62 none [sl 0 o n c, sl 1 o' n' c', undef, undef, nilS, sl 2 0 (zM n n').toNat (zM n n').toNat] (hM3 (List.replicate (zM n n').toNat (.int .u32 0)) lb la) [(okMakeB 4 (zM n n') (zM n n'), true)] := ⟨by kernel_rfl, by kernel_rfl, by kernel_rfl⟩
theorem mu_r2 (v0 v1 v5 : Value) (h : Hp) (g : Nat → Value) : GoesT (evC (tabH Tryd.prog extY conN hcV) 200 false (cFst (muB Tryd.f23)) ([v0, v1, undef, undef, nilS, v5] ++ tl 62 g, h, []) ⟨[], [], []⟩) 9 59 none [v0, v1, undef, undef, nilS, v5, .int .i64 0, g 1, g 2] h [] := ⟨by kernel_rfl, by kernel_rfl, by kernel_rfl⟩
theorem mu_h1 (o n c o' n' c' z : Nat) (i c7 k d p q : Int) (v7 v8 : Value) (lo lb la : List Value) (g : Nat → Value) : GoesT (evC (tabH Tryd.prog extY conN hcV) 200 false (cFst (muO Tryd.f23)) (mFr o n c o' n' c' z (.int .i64 i) v7 v8 ++ tl 59 g, hM3 lo lb la, [cmp true]) ⟨[], [], []⟩) 9 59 none (mFr o n c o' n' c' z (.int .i64 i) v7 v8) (hM3 lo lb la) [(decide (i < (n : Int)), true)] := ⟨by kernel_rfl, by kernel_rfl, by kernel_rfl⟩
theorem mu_h0 (o n c o' n' c' z : Nat) (i c7 k d p q : Int) (v7 v8 : Value) (lo lb la : List Value) (g : Nat → Value) : GoesT (evC (tabH Tryd.prog extY conN hcV) 200 false (cFst (muO Tryd.f23)) (mFr o n c o' n' c' z (.int .i64 i) v7 v8 ++ tl 59 g, hM3 lo lb la, [cmp false]) ⟨[], [], []⟩) 9 59 (some (some 0)) (mFr o n c o' n' c' z (.int .i64 i) v7 v8) (hM3 lo lb la) [(decide (i < (n : Int)), false)] := ⟨by kernel_rfl, by kernel_rfl, by kernel_rfl⟩
theorem mu_r5 (o n c o' n' c' z : Nat) (i c7 k d p q : Int) (v7 v8 : Value) (lo lb la : List Value) (g : Nat → Value) : GoesT (evC (tabH Tryd.prog extY conN hcV) 200 false (cFst (muI Tryd.f23)) (mFr o n c o' n' c' z (.int .i64 i) v7 v8 ++ tl 59 g, hM3 lo lb la, []) ⟨[], [], []⟩) 9 59 none (mFr o n c o' n' c' z (.int .i64 i) (.int .u64 0) v8) (hM3 lo lb la) [] := ⟨by kernel_rfl, by kernel_rfl, by kernel_rfl⟩
theorem mu_r6 (o n c o' n' c' z : Nat) (i c7 k d p q : Int) (v7 v8 : Value) (lo lb la : List Value) (g : Nat → Value) : GoesT (evC (tabH Tryd.prog extY conN hcV) 200 false (cFst (cFst (cSnd (muI Tryd.f23)))) (mFr o n c o' n' c' z (.int .i64 i) v7 v8 ++ tl 59 g, hM3 lo lb la, []) ⟨[], [], []⟩) 9 59 none (mFr o n c o' n' c' z (.int .i64 i) v7 (.int .i64 0)) (hM3 lo lb la) [] := ⟨by kernel_rfl, by kernel_rfl, by kernel_rfl⟩
theorem mu_in (o n c o' n' c' z : Nat) (i c7 k d p q : Int) (v7 v8 : Value) (lo lb la : List Value) (g : Nat → Value) : GoesT (evC (tabH Tryd.prog extY conN hcV) 200 false (muL Tryd.f23) (mFr o n c o' n' c' z (.int .i64 i) (.int .u64 c7) (.int .i64 k) ++ tl 59 g, hM3 lo lb la, [cmp true, at_, val (.int .u32 d), at_, val (.int .u32 p), at_, val (.int .u32 q), cmp true, at_, at_]) ⟨[], [], []⟩) 9 59 none (mFr o n c o' n' c' z (.int .i64 i) (.int .u64 (IntKind.u64.wrap ((tM c7 d p q).tdiv 65536))) (.int .i64 (IntKind.i64.wrap (k + 1)))) (hM3 (lo.set (0 + (ijM i k).toNat * 1) (.int .u32 (IntKind.u32.wrap ((tM c7 d p q).tmod 65536)))) lb la) [stM lo (ijM i k), inM (ijM i k) z, d65, ceM lb o' k q, inM k n', ceM la o i p, inM i n, ceM lo 0 (ijM i k) d, inM (ijM i k) z, (decide (k < (n' : Int)), true)] := ⟨by kernel_rfl, by kernel_rfl, by kernel_rfl⟩
theorem mu_out (o n c o' n' c' z : Nat) (i c7 k d p q : Int) (v7 v8 : Value) (lo lb la : List Value) (g : Nat → Value) : GoesT (evC (tabH Tryd.prog extY conN hcV) 200 false (muL Tryd.f23) (mFr o n c o' n' c' z (.int .i64 i) (.int .u64 c7) (.int .i64 k) ++ tl 59 g, hM3 lo lb la, [cmp false]) ⟨[], [], []⟩) 9 59 (some (some 2)) (mFr o n c o' n' c' z (.int .i64 i) (.int .u64 c7) (.int .i64 k)) (hM3 lo lb la) [(decide (k < (n' : Int)), false)] := ⟨by kernel_rfl, by kernel_rfl, by kernel_rfl⟩
theorem mu_r12 (o n c o' n' c' z : Nat) (i c7 k d p q : Int) (v7 v8 : Value) (lo lb la : List Value) (g : Nat → Value) : GoesT (evC (tabH Tryd.prog extY conN hcV) 200 false (cSnd (cSnd (muI Tryd.f23))) (mFr o n c o' n' c' z (.int .i64 i) (.int .u64 c7) v8 ++ tl 59 g, hM3 lo lb la, [at_, at_]) ⟨[], [], []⟩) 9 59 none (mFr o n c o' n' c' z (.int .i64 i) (.int .u64 c7) v8) (hM3 (lo.set (0 + (ijM i n').toNat * 1) (.int .u32 (IntKind.u32.wrap c7))) lb la) [stM lo (ijM i n'), inM (ijM i n') z] := ⟨by kernel_rfl, by kernel_rfl, by kernel_rfl⟩
theorem mu_r4 (o n c o' n' c' z : Nat) (i c7 k d p q : Int) (v7 v8 : Value) (lo lb la : List Value) (g : Nat → Value) : GoesT (evC (tabH Tryd.prog extY conN hcV) 200 false (cSnd (cSnd (muO Tryd.f23))) (mFr o n c o' n' c' z (.int .i64 i) v7 v8 ++ tl 59 g, hM3 lo lb la, []) ⟨[], [], []⟩) 9 59 none (mFr o n c o' n' c' z (.int .i64 (IntKind.i64.wrap (i + 1))) v7 v8) (hM3 lo lb la) [] := ⟨by kernel_rfl, by kernel_rfl, by kernel_rfl⟩
theorem mu_end (o n c o' n' c' z : Nat) (i c7 k d p q : Int) (v7 v8 : Value) (lo lb la : List Value) (g : Nat → Value) : GoesT (evC (tabH Tryd.prog extY conN hcV) 200 false (muE Tryd.f23) (mFr o n c o' n' c' z (.int .i64 i) v7 v8 ++ tl 59 g, hM3 lo lb la, []) ⟨[], [], []⟩) 5 63 (some none) [sl 0 o n c, sl 1 o' n' c', undef, undef, sl 2 0 (trimN (cutI lo 0 z)) (trimN (cutI lo 0 z))] (hM3 lo lb la) [(rowC tU lo 0 z z, true)] := ⟨by kernel_rfl, by kernel_rfl, by kernel_rfl⟩
end Go.Proofs.YtecemjilmlagdaaDoor

/-
  The document's product (tillerref02.Mul), as a contract: two rows, none of them nothing.
-/
namespace Go.Proofs.YtecemjilmlagdaaDoor
open Go.KRun Go.Nt
set_option maxRecDepth 100000
set_option linter.unusedVariables false

theorem Runs.next {T : Tab} {c1 c2 : Code} {x : Lf} {front : List Value} {n : Nat} {h : Hp} {P : Ex → Lf → Prop} (h1 : Runs T c1 x fun e y => e = none ∧ (∃ g, y.1 = front ++ tl n g) ∧ y.2.1 = h) (h2 : ∀ g s, Runs T c2 (front ++ tl n g, h, s) P) : Runs T (.seq c1 c2) x P := by
  refine Runs.seq h1 (fun y hy => ?_) (fun e y hy => by cases hy.1)
  obtain ⟨_, ⟨g, e1⟩, e2⟩ := hy
  obtain ⟨t, hh, s⟩ := y
  simp only at e1 e2
  subst e1 e2
  exact h2 g s
theorem wU_setM (O : List Int) (j : Nat) (v : Int) : (wU O).set j (.int .u32 v) = wU (O.set j v) := by unfold wU; rw [List.map_set]
theorem wrap64M {n : Int} (h0 : 0 ≤ n) (h1 : n < 18446744073709551616) : IntKind.u64.wrap n = n := by simp [IntKind.wrap, IntKind.bits, IntKind.signed]; omega
theorem getD_of {O : List Int} {j : Nat} (h : j < O.length) : (wU O)[0 + j * 1]? = some (.int .u32 (O.getD j 0)) := by
  rw [Nat.zero_add, Nat.mul_one]
  unfold wU
  rw [List.getElem?_map, List.getElem?_eq_getElem h]
  simp [List.getD, List.getElem?_eq_getElem h]
theorem smallC_of {n : Nat} (h : n < 1000000) : smallC n = true := by
  unfold smallC
  exact blt_iff.2 (by have : dead = 4611686018427387904 := rfl; omega)
theorem nat_dg {x : Int} (h : Dg 65536 x) : ∃ p : Nat, x = (p : Int) ∧ p < 65536 := ⟨x.toNat, by have := h.1; omega, by have := h.1; have := h.2; omega⟩
section
variable {la lb : List Value} {o c o' c' : Nat} {A B : List Int}
def mSt (o n c o' n' c' z : Nat) (la lb : List Value) (O : List Int) (i : Nat) (v7 v8 : Value) (Y : Lf) : Prop := (∃ g, Y.1 = mFr o n c o' n' c' z (.int .i64 ((i : Nat) : Int)) v7 v8 ++ tl 59 g) ∧ Y.2.1 = hM3 (wU O) lb la
def mOk (z i n' : Nat) (O : List Int) : Prop := O.length = z ∧ (∀ x ∈ O, Dg 65536 x) ∧ ∀ j, i + n' ≤ j → O.getD j 0 = 0
def mIn (o c o' c' : Nat) (la lb : List Value) (A B : List Int) (i V : Nat) (m : Nat) (Y : Lf) : Prop :=
  ∃ k O c7, m = B.length - k ∧ k ≤ B.length ∧ mOk (A.length + B.length) i B.length O ∧ c7 < 65536 ∧ vb 65536 O + c7 * 65536 ^ (i + k) = V + (A.getD i 0).toNat * vb 65536 (B.take k) * 65536 ^ i ∧ mSt o A.length c o' B.length c' (A.length + B.length) la lb O i (.int .u64 ((c7 : Nat) : Int)) (.int .i64 ((k : Nat) : Int)) Y
def mFi (o c o' c' : Nat) (la lb : List Value) (A B : List Int) (i V : Nat) (Y : Lf) : Prop :=
  ∃ O c7 v8, mOk (A.length + B.length) i B.length O ∧ c7 < 65536 ∧ vb 65536 O + c7 * 65536 ^ (i + B.length) = V + (A.getD i 0).toNat * vb 65536 B * 65536 ^ i ∧ mSt o A.length c o' B.length c' (A.length + B.length) la lb O i (.int .u64 ((c7 : Nat) : Int)) v8 Y
theorem set_mOk {z i n' : Nat} {O : List Int} (h : mOk z i n' O) {j : Nat} (hj : j < i + n') {v : Int} (hv : ∀ x ∈ O.set j v, Dg 65536 x) : mOk z i n' (O.set j v) := by
  refine ⟨by rw [List.length_set]; exact h.1, hv, fun t ht => ?_⟩
  have := h.2.2 t ht
  simp only [List.getD] at *
  rw [List.getElem?_set_ne (by omega)]
  exact this
theorem umul_inner (rA : Row la o A) (rB : Row lb o' B) (dA : ∀ x ∈ A, Dg 65536 x) (dB : ∀ x ∈ B, Dg 65536 x) (hz : A.length + B.length < 1000000) {i V : Nat} (hi : i < A.length) {Y0 : Lf} (h0 : mIn o c o' c' la lb A B i V B.length Y0) :
    Runs (tabH Tryd.prog extY conN hcV) (.block 2 (.loop (muL Tryd.f23))) Y0 fun e Y => match e with | none => mFi o c o' c' la lb A B i V Y | some none => False | some (some _) => False := by
  refine Runs.forLoop (P := mFi o c o' c' la lb A B i V) (R := fun _ => False) (mIn o c o' c' la lb A B i V) ?_ (n := B.length) h0
  rintro m ⟨t, h', s⟩ ⟨k, O, c7, hm, hk, hO, hc, hval, ⟨g, ht⟩, hh⟩
  simp only at ht hh
  subst ht hh
  by_cases hlt : k < B.length
  · have hj : i + k < O.length := by rw [hO.1]; omega
    obtain ⟨p, ep, hp⟩ := nat_dg (at_dg dA i)
    obtain ⟨q, eq, hq⟩ := nat_dg (at_dg dB k)
    obtain ⟨d, ed, hd⟩ := nat_dg (at_dg hO.2.1 (i + k))
    have eij : ijM i k = ((i + k : Nat) : Int) := by unfold ijM; rw [wrapI (by omega) (by omega)]; omega
    have hpq : p * q ≤ 65535 * 65535 := Nat.mul_le_mul (by omega) (by omega)
    have epq : (p : Int) * (q : Int) = ((p * q : Nat) : Int) := by simp
    have eT : tM c7 d p q = ((c7 + d + p * q : Nat) : Int) := by
      unfold tM
      rw [wrap64M (n := (d : Int)) (by omega) (by omega), wrap64M (n := (p : Int)) (by omega) (by omega), wrap64M (n := (q : Int)) (by omega) (by omega), epq, wrap64M (n := ((p * q : Nat) : Int)) (by omega) (by omega), wrap64M (n := (c7 : Int) + (d : Int)) (by omega) (by omega), wrap64M (by omega) (by omega)]
      omega
    have e1 : IntKind.u64.wrap ((tM c7 d p q).tdiv 65536) = (((c7 + d + p * q) / 65536 : Nat) : Int) := by
      rw [eT, Int.tdiv_eq_ediv_of_nonneg (by omega), wrap64M (by omega) (by omega)]
      omega
    have e2 : IntKind.u32.wrap ((tM c7 d p q).tmod 65536) = (((c7 + d + p * q) % 65536 : Nat) : Int) := by
      rw [eT, Int.tmod_eq_emod_of_nonneg (by omega), wrap32 (by omega) (by omega)]
      omega
    have e3 : IntKind.i64.wrap ((k : Int) + 1) = ((k + 1 : Nat) : Int) := by rw [wrapI (by omega) (by omega)]; omega
    have hstep := mul_step hj hO.2.1 hc hp hq
    rw [ed, Int.toNat_natCast] at hstep
    obtain ⟨s1, s2, s3⟩ := hstep
    have hw := mu_in o A.length c o' B.length c' (A.length + B.length) i c7 k d p q undef undef (wU O) lb la g
    have lg : okLog [stM (wU O) (ijM i k), inM (ijM i k) (A.length + B.length), d65, ceM lb o' k q, inM k B.length, ceM la o i p, inM i A.length, ceM (wU O) 0 (ijM i k) d, inM (ijM i k) (A.length + B.length), (decide ((k : Int) < ((B.length : Nat) : Int)), true)] := by
      have g1 : decide (0 + (ijM i k).toNat * 1 < (wU O).length) = true := decide_eq_true (by rw [eij, Int.toNat_natCast, wU_len]; omega)
      have g2 : decide (0 ≤ ijM i k ∧ ijM i k < ((A.length + B.length : Nat) : Int)) = true := decide_eq_true (by rw [eij]; omega)
      have g3 : cellIs (lb[o' + (k : Int).toNat * 1]?) (.int .u32 q) = true := by rw [Int.toNat_natCast, Nat.mul_one, rB.cell hlt, eq]; simp [cellIs]
      have g4 : decide (0 ≤ (k : Int) ∧ (k : Int) < ((B.length : Nat) : Int)) = true := decide_eq_true (by omega)
      have g5 : cellIs (la[o + (i : Int).toNat * 1]?) (.int .u32 p) = true := by rw [Int.toNat_natCast, Nat.mul_one, rA.cell hi, ep]; simp [cellIs]
      have g6 : decide (0 ≤ (i : Int) ∧ (i : Int) < ((A.length : Nat) : Int)) = true := decide_eq_true (by omega)
      have g7 : cellIs ((wU O)[0 + (ijM i k).toNat * 1]?) (.int .u32 d) = true := by rw [eij, Int.toNat_natCast, getD_of hj, ed]; simp [cellIs]
      exact okTwo g1 (okTwo g2 (okTwo rfl (okTwo g3 (okTwo g4 (okTwo g5 (okTwo g6 (okTwo g7 (okTwo g2 (okOne (decide_eq_true (by omega)))))))))))
    rw [e1, e2, e3, eij, Int.toNat_natCast, Nat.zero_add, Nat.mul_one, wU_setM] at hw
    refine (goesT_runs (tabH_ok conN_ok hcV_ok) hw (by rw [← Int.toNat_natCast (i + k), ← eij] at *; exact lg)).mono fun e z hz => ?_
    obtain ⟨rfl, z1, z2⟩ := hz
    refine ⟨B.length - (k + 1), by omega, k + 1, O.set (i + k) (((c7 + d + p * q) % 65536 : Nat) : Int), (c7 + d + p * q) / 65536, rfl, by omega, set_mOk hO (by omega) s3, s2, ?_, z1, z2⟩
    rw [vb_take, Nat.mul_add, Nat.add_mul, eq, Int.toNat_natCast, ep, Int.toNat_natCast]
    rw [ep, Int.toNat_natCast] at hval
    have x1 : p * (65536 ^ k * q) * 65536 ^ i = p * q * 65536 ^ (i + k) := by rw [Nat.pow_add, Nat.mul_comm (65536 ^ k) q, ← Nat.mul_assoc, Nat.mul_assoc (p * q), Nat.mul_comm (65536 ^ k)]
    rw [x1]
    have x2 : i + (k + 1) = i + k + 1 := by omega
    rw [x2]
    omega
  · have hkl : k = B.length := by omega
    subst hkl
    refine (goesT_runs (tabH_ok conN_ok hcV_ok) (mu_out o A.length c o' B.length c' (A.length + B.length) i c7 ((B.length : Nat) : Int) 0 0 0 undef undef (wU O) lb la g) (okOne (decide_eq_false (by omega)))).mono fun e z hz => ?_
    obtain ⟨rfl, z1, z2⟩ := hz
    rw [List.take_length] at hval
    exact ⟨rfl, O, c7, _, hO, hc, hval, z1, z2⟩
theorem blk1 {T : Tab} {c : Code} {id : Nat} {x : Lf} {P : Lf → Prop} (h : Runs T c x fun e y => e = none ∧ P y) : Runs T (.block id c) x fun e y => e = none ∧ P y :=
  Runs.block h (fun y hy => hy) (fun y hy => by cases hy.1) (fun y hy => by cases hy.1) (fun id' y _ hy => by cases hy.1)
def mOu (o c o' c' : Nat) (la lb : List Value) (A B : List Int) (i : Nat) (Y : Lf) : Prop :=
  ∃ O v7 v8, mOk (A.length + B.length) i B.length O ∧ vb 65536 O = vb 65536 (A.take i) * vb 65536 B ∧ mSt o A.length c o' B.length c' (A.length + B.length) la lb O i v7 v8 Y
theorem umul_round (rA : Row la o A) (rB : Row lb o' B) (dA : ∀ x ∈ A, Dg 65536 x) (dB : ∀ x ∈ B, Dg 65536 x) (hz : A.length + B.length < 1000000) {i : Nat} (hi : i < A.length) {Y0 : Lf} (h0 : mOu o c o' c' la lb A B i Y0) :
    Runs (tabH Tryd.prog extY conN hcV) (muO Tryd.f23) Y0 fun e Y => e = none ∧ mOu o c o' c' la lb A B (i + 1) Y := by
  obtain ⟨O, v7, v8, hO, hval, ⟨g, ht⟩, hh⟩ := h0
  obtain ⟨t, h', s⟩ := Y0
  simp only at ht hh
  subst ht hh
  have hT := tabH_ok conN_ok hcV_ok
  rw [umul_out]
  refine Runs.next (goesT_runs hT (mu_h1 o A.length c o' B.length c' (A.length + B.length) i 0 0 0 0 0 v7 v8 (wU O) lb la g) (okOne (decide_eq_true (by omega)))) fun g s => ?_
  refine Runs.seq (P1 := fun e Y => e = none ∧ ∃ O v7 v8, mOk (A.length + B.length) (i + 1) B.length O ∧ vb 65536 O = vb 65536 (A.take (i + 1)) * vb 65536 B ∧ mSt o A.length c o' B.length c' (A.length + B.length) la lb O i v7 v8 Y) (blk1 ?_) ?_ (fun e y hy => by cases hy.1)
  · rw [umul_row]
    refine Runs.next (goesT_runs hT (mu_r5 o A.length c o' B.length c' (A.length + B.length) i 0 0 0 0 0 v7 v8 (wU O) lb la g) (fun _ h => by cases h)) fun g s => ?_
    refine Runs.seq (P1 := fun e Y => e = none ∧ mFi o c o' c' la lb A B i (vb 65536 O) Y) ?_ ?_ (fun e y hy => by cases hy.1)
    · refine Runs.next (goesT_runs hT (mu_r6 o A.length c o' B.length c' (A.length + B.length) i 0 0 0 0 0 (.int .u64 0) v8 (wU O) lb la g) (fun _ h => by cases h)) fun g s => ?_
      refine (umul_inner rA rB dA dB hz hi (V := vb 65536 O) ⟨0, O, 0, by omega, by omega, hO, by omega, ?_, ⟨g, rfl⟩, rfl⟩).mono fun e Y hY => ?_
      · simp [vb]
      · match e, hY with
        | none, hY => exact ⟨rfl, hY⟩
        | some none, hY => exact hY.elim
        | some (some _), hY => exact hY.elim
    · rintro ⟨t, h', s⟩ ⟨_, O', c7, w8, hO', hc7, hv', ⟨g, ht⟩, hh⟩
      simp only at ht hh
      subst ht hh
      have hj : i + B.length < O'.length := by rw [hO'.1]; omega
      have eij : ijM i ((B.length : Nat) : Int) = ((i + B.length : Nat) : Int) := by unfold ijM; rw [wrapI (by omega) (by omega)]; omega
      have e1 : IntKind.u32.wrap ((c7 : Nat) : Int) = ((c7 : Nat) : Int) := wrap32 (by omega) (by omega)
      have hw := mu_r12 o A.length c o' B.length c' (A.length + B.length) i c7 0 0 0 0 undef w8 (wU O') lb la g
      have g1 : decide (0 + (ijM i ((B.length : Nat) : Int)).toNat * 1 < (wU O').length) = true := decide_eq_true (by rw [eij, Int.toNat_natCast, wU_len]; omega)
      have g2 : decide (0 ≤ ijM i ((B.length : Nat) : Int) ∧ ijM i ((B.length : Nat) : Int) < ((A.length + B.length : Nat) : Int)) = true := decide_eq_true (by rw [eij]; omega)
      have r := goesT_runs (s0 := s) hT hw (okTwo g1 (okOne g2))
      rw [e1, eij, Int.toNat_natCast, Nat.zero_add, Nat.mul_one, wU_setM] at r
      refine r.mono fun e z hz => ?_
      obtain ⟨rfl, z1, z2⟩ := hz
      have hdg : ∀ x ∈ O'.set (i + B.length) ((c7 : Nat) : Int), Dg 65536 x := set_dg hO'.2.1 ⟨by omega, by omega⟩ _
      refine ⟨rfl, O'.set (i + B.length) ((c7 : Nat) : Int), _, _, ⟨by rw [List.length_set]; exact hO'.1, hdg, fun j hj' => ?_⟩, ?_, z1, z2⟩
      · have := hO'.2.2 j (by omega)
        simp only [List.getD] at *
        rw [List.getElem?_set_ne (by omega)]
        exact this
      · have hs := vb_set (b := 65536) hj ((c7 : Nat) : Int)
        rw [hO'.2.2 (i + B.length) (Nat.le_refl _), Int.toNat_natCast] at hs
        rw [vb_take, Nat.add_mul, ← hval]
        have x1 : 65536 ^ i * (A.getD i 0).toNat * vb 65536 B = (A.getD i 0).toNat * vb 65536 B * 65536 ^ i := by rw [Nat.mul_assoc, Nat.mul_comm]
        rw [x1]
        have x2 : c7 * 65536 ^ (i + B.length) = 65536 ^ (i + B.length) * c7 := Nat.mul_comm _ _
        have x3 : (65536 : Nat) ^ (i + B.length) * (0 : Int).toNat = 0 := by simp
        omega
  · rintro ⟨t, h', s⟩ ⟨_, O', w7, w8, hO', hv', ⟨g, ht⟩, hh⟩
    simp only at ht hh
    subst ht hh
    have e3 : IntKind.i64.wrap ((i : Int) + 1) = ((i + 1 : Nat) : Int) := by rw [wrapI (by omega) (by omega)]; omega
    have hw := mu_r4 o A.length c o' B.length c' (A.length + B.length) i 0 0 0 0 0 w7 w8 (wU O') lb la g
    rw [e3] at hw
    refine (goesT_runs hT hw (fun _ h => by cases h)).mono fun e z hz => ?_
    obtain ⟨rfl, z1, z2⟩ := hz
    exact ⟨rfl, O', w7, w8, hO', hv', z1, z2⟩
theorem umul_loop (rA : Row la o A) (rB : Row lb o' B) (dA : ∀ x ∈ A, Dg 65536 x) (dB : ∀ x ∈ B, Dg 65536 x) (hz : A.length + B.length < 1000000) {Y0 : Lf} (h0 : mOu o c o' c' la lb A B 0 Y0) :
    Runs (tabH Tryd.prog extY conN hcV) (.block 0 (.loop (muO Tryd.f23))) Y0 fun e Y => match e with | none => mOu o c o' c' la lb A B A.length Y | some none => False | some (some _) => False := by
  refine Runs.forLoop (P := mOu o c o' c' la lb A B A.length) (R := fun _ => False) (fun m Y => ∃ i, m = A.length - i ∧ i ≤ A.length ∧ mOu o c o' c' la lb A B i Y) ?_ (n := A.length) ⟨0, by omega, by omega, h0⟩
  rintro m Y ⟨i, hm, hi, hY⟩
  by_cases hlt : i < A.length
  · refine (umul_round rA rB dA dB hz hlt hY).mono fun e z hz' => ?_
    obtain ⟨rfl, z1⟩ := hz'
    exact ⟨A.length - (i + 1), by omega, i + 1, rfl, by omega, z1⟩
  · have hil : i = A.length := by omega
    subst hil
    obtain ⟨O, v7, v8, hO, hval, ⟨g, ht⟩, hh⟩ := hY
    obtain ⟨t, h', s⟩ := Y
    simp only at ht hh
    subst ht hh
    rw [umul_out]
    refine Runs.seq (goesT_runs (tabH_ok conN_ok hcV_ok) (mu_h0 o A.length c o' B.length c' (A.length + B.length) ((A.length : Nat) : Int) 0 0 0 0 0 v7 v8 (wU O) lb la g) (okOne (decide_eq_false (by omega)))) (fun y hy => by cases hy.1) (fun e y hy => ?_)
    obtain ⟨e1, z1, z2⟩ := hy
    cases e1
    exact ⟨rfl, O, v7, v8, hO, hval, z1, z2⟩
theorem umul_runs (rA : Row la o A) (rB : Row lb o' B) (dA : ∀ x ∈ A, Dg 65536 x) (dB : ∀ x ∈ B, Dg 65536 x) (hz : A.length + B.length < 1000000) :
    Runs (tabH Tryd.prog extY conN hcV) (seqs (muPr Tryd.f23) (.seq (.seq (cFst (muB Tryd.f23)) (.block 0 (.loop (muO Tryd.f23)))) (muE Tryd.f23))) ([sl 0 o A.length c, sl 1 o' B.length c'] ++ List.replicate 66 undef, h2 la lb, []) fun e z => (e = none ∨ e = some none) ∧ resS Tryd.prog Tryd.f23 z.1 z.2.1 = some (sl 2 0 (d16 (vb 65536 A * vb 65536 B)).length (d16 (vb 65536 A * vb 65536 B)).length) ∧ ∃ r, z.2.1.blk? 2 = some (wU (d16 (vb 65536 A * vb 65536 B)) ++ r, tU) := by
  have hT := tabH_ok conN_ok hcV_ok
  have ez : zM A.length B.length = ((A.length + B.length : Nat) : Int) := by unfold zM; rw [wrapI (by omega) (by omega)]; omega
  have hp := mu_pre o A.length c o' B.length c' la lb
  have mk : okMakeB 4 (zM A.length B.length) (zM A.length B.length) = true := by unfold okMakeB; rw [ez]; exact decide_eq_true (by omega)
  refine goesT_list hT hp (okOne mk) fun g => ?_
  rw [ez, Int.toNat_natCast]
  have ew : List.replicate (A.length + B.length) (Value.int .u32 0) = wU (List.replicate (A.length + B.length) 0) := by unfold wU; rw [List.map_replicate]
  rw [ew]
  have hrep : mOk (A.length + B.length) 0 B.length (List.replicate (A.length + B.length) (0 : Int)) := by
    refine ⟨by simp, fun x hx => ?_, fun j _ => ?_⟩
    · rw [List.eq_of_mem_replicate hx]; exact ⟨by omega, by omega⟩
    · simp only [List.getD, List.getElem?_replicate]
      split <;> rfl
  have hv0 : ∀ n : Nat, vb 65536 (List.replicate n (0 : Int)) = 0 := fun n => by
    induction n with
    | zero => rfl
    | succ n ih => rw [List.replicate_succ]; simp only [vb, ih]; rfl
  refine Runs.seq (P1 := fun e Y => e = none ∧ mOu o c o' c' la lb A B A.length Y) ?_ ?_ (fun e y hy => by cases hy.1)
  · refine Runs.next (goesT_runs hT (mu_r2 (sl 0 o A.length c) (sl 1 o' B.length c') (sl 2 0 (A.length + B.length) (A.length + B.length)) _ g) (fun _ h => by cases h)) fun g s => ?_
    refine (umul_loop rA rB dA dB hz ⟨List.replicate (A.length + B.length) 0, _, _, hrep, by rw [hv0]; simp [vb], ⟨g, rfl⟩, rfl⟩).mono fun e Y hY => ?_
    match e, hY with
    | none, hY => exact ⟨rfl, hY⟩
    | some none, hY => exact hY.elim
    | some (some _), hY => exact hY.elim
  · rintro ⟨t, h', s⟩ ⟨_, O, v7, v8, hO, hval, ⟨g, ht⟩, hh⟩
    simp only at ht hh
    subst ht hh
    rw [List.take_length] at hval
    have hl := hO.1
    have hrow : rowC tU (wU O) 0 (A.length + B.length) (A.length + B.length) = true := by
      have := rowC_wU (L := O) (fun x hx => ⟨(hO.2.1 x hx).1, by have := (hO.2.1 x hx).2; omega⟩) (by rw [hl]; omega) (c := A.length + B.length) (by rw [hl]; unfold capOk; simp; exact .inl (smallC_of (by omega)))
      rw [hl] at this
      exact this
    have ec : cutI (wU O) 0 (A.length + B.length) = O := by
      have := cut_wU O
      rw [hl] at this
      exact this
    have et : trimN O = (d16 (vb 65536 A * vb 65536 B)).length := by
      rw [trim_len (by omega) hO.2.1, hval]
      rfl
    refine (goesT_runs hT (mu_end o A.length c o' B.length c' (A.length + B.length) ((A.length : Nat) : Int) 0 0 0 0 0 v7 v8 (wU O) lb la g) (okOne hrow)).mono fun e z hz' => ?_
    obtain ⟨rfl, ⟨g', e1⟩, e2⟩ := hz'
    refine ⟨.inr rfl, ?_, ?_⟩
    · rw [e1, e2, ec, et]
      rfl
    · rw [e2]
      refine ⟨wU (O.drop (trimN O)), ?_⟩
      have e3 : wU (d16 (vb 65536 A * vb 65536 B)) ++ wU (O.drop (trimN O)) = wU O := by
        unfold d16
        rw [← hval, ← take_trim (by omega) _ hO.2.1, ← wU_append, List.take_append_drop]
      rw [e3]
      rfl
end
def okMu (h : Hp) (p q : Option Addr) (n c n' c' : Nat) : Bool := rowP h p n c && dgB (rowOf h p n) && (rowP h q n' c' && dgB (rowOf h q n')) && Nat.blt (n + n') 1000000
def gUmul : AnsH := fun vals h s =>
  match vals with
  | [.slice (some ⟨b, o, none⟩) n c, .slice (some ⟨b', o', none⟩) n' c'] => mk16 (vO h (some ⟨b, o, none⟩) n * vO h (some ⟨b', o', none⟩) n') h s [(okMu h (some ⟨b, o, none⟩) (some ⟨b', o', none⟩) n c n' c', true)]
  | _ => none
theorem gUmul_ok : AnsHOk 23 gUmul := by
  intro vals h s v h' s' lg hg hl m B w E0 hv
  unfold gUmul at hg
  split at hg
  · rename_i b o n c b' o' n' c'
    unfold mk16 at hg
    cases hg
    have l3 := hl _ (List.mem_singleton.2 rfl)
    simp only [okMu, Bool.and_eq_true] at l3
    obtain ⟨⟨⟨q1, q2⟩, ⟨p1, p2⟩⟩, q4⟩ := l3
    have q2 := dgB_of q2
    have p2 := dgB_of p2
    have q4 := blt_iff.1 q4
    rcases rowP_cases q1 with ⟨h0, _⟩ | ⟨b1, o1, x, hp, hx, r1, rs, e0⟩
    · cases h0
    · cases hp
      rcases rowP_cases p1 with ⟨h0, _⟩ | ⟨b2, o2, y, hp', hy, t1, ts, f0⟩
      · cases h0
      · cases hp'
        rw [e0] at q2
        rw [f0] at p2
        obtain ⟨h1, h2', h3, h4, h5, h6, h7⟩ := rowC_of r1
        obtain ⟨k1, k2, k3, k4, k5, k6, k7⟩ := rowC_of t1
        have ev : vO h (some ⟨b, o, none⟩) n = vb 65536 (cutI x.1 o n) := by unfold vO; rw [e0]
        have ev' : vO h (some ⟨b', o', none⟩) n' = vb 65536 (cutI y.1 o' n') := by unfold vO; rw [f0]
        have r := umul_runs (c := c) (c' := c') h1 k1 q2 p2 (by rw [h2', k2]; exact q4)
        rw [h2', k2, ← ev, ← ev'] at r
        have evals : List.map (rn (pair b b')) [sl 0 o n c, sl 1 o' n' c'] = [.slice (some ⟨b, o, none⟩) n c, .slice (some ⟨b', o', none⟩) n' c'] := by
          simp [rn, rn2, rn1, sl, pair]
        have fin := row_calls1 (T := tabH Tryd.prog extY conN hcV) Tryd.func23 umul_body (rows2 h7 k7) (vals := [sl 0 o n c, sl 1 o' n' c']) (fun v hv => by
          simp only [List.mem_cons, List.not_mem_nil, or_false] at hv
          rcases hv with h1 | h1 <;> rw [h1] <;> rfl) (k := 2) (cs := wU (d16 (vO h (some ⟨b, o, none⟩) n * vO h (some ⟨b', o', none⟩) n'))) (ty := tU) (wU_lt _) (by kernel_rfl) r.w (by rfl) E0 (s := pair b b') (fitsR2 hx h5 h6 hy k5 k6)
        rw [evals] at fin
        exact fin
  · cases hg
end Go.Proofs.YtecemjilmlagdaaDoor
