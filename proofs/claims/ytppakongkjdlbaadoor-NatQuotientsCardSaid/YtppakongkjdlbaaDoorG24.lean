/-
  PLAIN ARITHMETIC: digits to the base 65536, moved down; a bit.
-/
import Derived.Test.YtppakongkjdlbaaDoorG17
import Derived.Test.YtppakongkjdlbaaDoorG16
import Derived.Test.YtppakongkjdlbaaDoorG14
import Derived.Test.YtppakongkjdlbaaDoorG15
namespace Go.Nt

def dgS (L : List Int) (i : Nat) : Nat := (L.getD i 0).toNat
theorem pow_split16 (k : Nat) : 2 ^ k = 65536 ^ (k / 16) * 2 ^ (k % 16) := by
  rw [pow16, ← Nat.pow_add]
  congr 1
  omega
theorem dg_lt {L : List Int} (h : ∀ x ∈ L, Dg 65536 x) (i : Nat) : dgS L i < 65536 := by
  unfold dgS
  by_cases hi : i < L.length
  · have := h (L.getD i 0) (by simp [List.getD, List.getElem?_eq_getElem hi])
    omega
  · simp [List.getD, List.getElem?_eq_none (show L.length ≤ i by omega)]
theorem vb_cut {L : List Int} (h : ∀ x ∈ L, Dg 65536 x) (z : Nat) : vb 65536 L / 65536 ^ z = vb 65536 (L.drop z) ∧ vb 65536 L % 65536 ^ z = vb 65536 (L.take z) := by
  have hp : 0 < 65536 ^ z := Nat.pow_pos (by omega)
  by_cases hz : z ≤ L.length
  · have e : vb 65536 L = vb 65536 (L.take z) + 65536 ^ z * vb 65536 (L.drop z) := by
      conv => lhs; rw [← List.take_append_drop z L]
      rw [vb_append, List.length_take, show min z L.length = z by omega]
    have hl : vb 65536 (L.take z) < 65536 ^ z := by
      have := vb_lt (b := 65536) (by omega) (L.take z) (fun x hx => h x (List.mem_of_mem_take hx))
      rw [List.length_take, show min z L.length = z by omega] at this
      exact this
    rw [e]
    exact ⟨by rw [Nat.add_mul_div_left _ _ hp, Nat.div_eq_of_lt hl, Nat.zero_add], by rw [Nat.add_mul_mod_self_left, Nat.mod_eq_of_lt hl]⟩
  · have hl : vb 65536 L < 65536 ^ z := by
      have h1 := vb_lt (b := 65536) (by omega) L h
      have h2 := Nat.pow_le_pow_right (show 0 < 65536 by omega) (show L.length ≤ z by omega)
      omega
    rw [List.drop_of_length_le (by omega), List.take_of_length_le (by omega)]
    exact ⟨Nat.div_eq_of_lt hl, Nat.mod_eq_of_lt hl⟩
theorem vb_drop {L : List Int} {z : Nat} : vb 65536 (L.drop z) = dgS L z + 65536 * vb 65536 (L.drop (z + 1)) := by
  by_cases hz : z < L.length
  · rw [List.drop_eq_getElem_cons hz]
    simp only [vb, dgS]
    simp [List.getD, List.getElem?_eq_getElem hz]
  · rw [List.drop_of_length_le (by omega), List.drop_of_length_le (by omega)]
    simp [vb, dgS, List.getD, List.getElem?_eq_none (show L.length ≤ z by omega)]
theorem dvd_pow {s : Nat} (h : s ≤ 16) : 2 ^ s * 2 ^ (16 - s) = 65536 := by rw [← Nat.pow_add, show s + (16 - s) = 16 by omega]
/-- a bit by its digit -/
theorem bit_dg {L : List Int} (h : ∀ x ∈ L, Dg 65536 x) (k : Nat) : vb 65536 L / 2 ^ k % 2 = dgS L (k / 16) / 2 ^ (k % 16) % 2 := by
  obtain ⟨e, _⟩ := vb_cut h (k / 16)
  rw [pow_split16, ← Nat.div_div_eq_div_mul, e, vb_drop]
  have hd := dvd_pow (s := k % 16 + 1) (by omega)
  have e2 : 65536 * vb 65536 (L.drop (k / 16 + 1)) = 2 ^ (k % 16) * (2 * (2 ^ (16 - (k % 16 + 1)) * vb 65536 (L.drop (k / 16 + 1)))) := by
    rw [← hd, Nat.pow_succ]
    simp only [Nat.mul_assoc]
  have hp : 0 < 2 ^ (k % 16) := Nat.pow_pos (by omega)
  rw [e2, Nat.add_mul_div_left _ _ hp]
  omega
/-- what is cut off -/
theorem lost_iff {L : List Int} (h : ∀ x ∈ L, Dg 65536 x) (k : Nat) : (vb 65536 L % 2 ^ k ≠ 0) ↔ (vb 65536 (L.take (k / 16)) ≠ 0 ∨ dgS L (k / 16) % 2 ^ (k % 16) ≠ 0) := by
  obtain ⟨e1, e2⟩ := vb_cut h (k / 16)
  have hp : 0 < 65536 ^ (k / 16) := Nat.pow_pos (by omega)
  rw [pow_split16, Nat.mod_mul, e1, e2, vb_drop]
  have hd := dvd_pow (s := k % 16) (by omega)
  have e3 : (dgS L (k / 16) + 65536 * vb 65536 (L.drop (k / 16 + 1))) % 2 ^ (k % 16) = dgS L (k / 16) % 2 ^ (k % 16) := by
    rw [← hd, Nat.mul_assoc, Nat.add_mul_mod_self_left]
  rw [e3]
  generalize dgS L (k / 16) % 2 ^ (k % 16) = r
  generalize vb 65536 (L.take (k / 16)) = u
  constructor
  · intro h0
    by_cases hu : u = 0
    · right
      intro hr
      apply h0
      rw [hu, hr, Nat.mul_zero]
    · exact .inl hu
  · rintro (h0 | h0) hh
    · omega
    · have : 0 < 65536 ^ (k / 16) * r := Nat.mul_pos hp (by omega)
      omega
/-- the digits of a number moved down: one more -/
theorem down_step {O : List Int} {P R y x0 x1 j W : Nat} (hPR : P * R = 65536) (hO : O.length = j) (h : vb 65536 O * P + y = W + 65536 ^ j * (x0 % P)) :
    vb 65536 (O ++ [((x0 / P + x1 % P * R : Nat) : Int)]) * P + y = (W + 65536 ^ j * x0) + 65536 ^ (j + 1) * (x1 % P) := by
  have e : vb 65536 (O ++ [((x0 / P + x1 % P * R : Nat) : Int)]) = vb 65536 O + 65536 ^ j * (x0 / P + x1 % P * R) := by
    rw [vb_snoc, hO, Int.toNat_natCast]
  have e2 := Nat.div_add_mod x0 P
  have e3 : 65536 ^ j * (x0 / P + x1 % P * R) * P = 65536 ^ j * (P * (x0 / P)) + 65536 ^ (j + 1) * (x1 % P) := by
    rw [Nat.mul_assoc, Nat.add_mul, Nat.mul_add, Nat.mul_comm (x0 / P) P, Nat.mul_assoc (x1 % P), Nat.mul_comm R P, hPR, Nat.pow_succ, Nat.mul_comm (x1 % P), Nat.mul_assoc]
  have e4 : 65536 ^ j * x0 = 65536 ^ j * (P * (x0 / P)) + 65536 ^ j * (x0 % P) := by rw [← Nat.mul_add, e2]
  rw [e, Nat.add_mul, e3]
  omega
theorem down_lt {P R x0 x1 : Nat} (hP : 0 < P) (hPR : P * R = 65536) (h0 : x0 < 65536) : x0 / P + x1 % P * R < 65536 := by
  have h1 : x0 / P < R := Nat.div_lt_of_lt_mul (by omega)
  have h2 : x1 % P + 1 ≤ P := Nat.mod_lt _ hP
  have h3 := Nat.mul_le_mul_right R h2
  rw [Nat.add_mul, Nat.one_mul, hPR] at h3
  omega
theorem down_end {L : List Int} (h : ∀ x ∈ L, Dg 65536 x) {k V' : Nat} (e : V' * 2 ^ (k % 16) + dgS L (k / 16) % 2 ^ (k % 16) = vb 65536 (L.drop (k / 16))) : V' = vb 65536 L / 2 ^ k := by
  have hp : 0 < 2 ^ (k % 16) := Nat.pow_pos (by omega)
  obtain ⟨e1, _⟩ := vb_cut h (k / 16)
  rw [pow_split16, ← Nat.div_div_eq_div_mul, e1, ← e, Nat.add_comm, Nat.mul_comm, Nat.add_mul_div_left _ _ hp, Nat.div_eq_of_lt (Nat.mod_lt _ hp), Nat.zero_add]
end Go.Nt

/-
  PLAIN ARITHMETIC: a product of digits to the base 65536, row by row.
-/
namespace Go.Nt

theorem vb_set {b : Nat} : ∀ {L : List Int} {j : Nat}, j < L.length → ∀ v : Int, vb b (L.set j v) + b ^ j * (L.getD j 0).toNat = vb b L + b ^ j * v.toNat
  | [], _, h, _ => by simp at h
  | x :: L, 0, _, v => by simp [vb]; omega
  | x :: L, j + 1, h, v => by
    have ih := vb_set (b := b) (L := L) (j := j) (by simpa using h) v
    have e : (x :: L).getD (j + 1) 0 = L.getD j 0 := by simp [List.getD]
    simp only [List.set, vb, e]
    have h2 := congrArg (fun t => b * t) ih
    simp only [Nat.mul_add] at h2
    rw [Nat.pow_succ, Nat.mul_comm (b ^ j) b, Nat.mul_assoc, Nat.mul_assoc]
    omega
theorem set_dg {L : List Int} (h : ∀ x ∈ L, Dg 65536 x) {v : Int} (hv : Dg 65536 v) (j : Nat) : ∀ x ∈ L.set j v, Dg 65536 x := fun x hx => by
  rcases List.mem_or_eq_of_mem_set hx with hx | rfl
  · exact h x hx
  · exact hv
/-- one step: what is carried, a digit and a product -/
theorem mul_step {L : List Int} {j : Nat} (hj : j < L.length) (hL : ∀ x ∈ L, Dg 65536 x) {c p q : Nat} (hc : c < 65536) (hp : p < 65536) (hq : q < 65536) :
    let t := c + (L.getD j 0).toNat + p * q
    vb 65536 (L.set j ((t % 65536 : Nat) : Int)) + t / 65536 * 65536 ^ (j + 1) = vb 65536 L + c * 65536 ^ j + p * q * 65536 ^ j ∧ t / 65536 < 65536 ∧ (∀ x ∈ L.set j ((t % 65536 : Nat) : Int), Dg 65536 x) := by
  intro t
  have hd : (L.getD j 0).toNat < 65536 := dg_lt hL j
  have hpq : p * q ≤ 65535 * 65535 := Nat.mul_le_mul (by omega) (by omega)
  have ht : t = c + (L.getD j 0).toNat + p * q := rfl
  refine ⟨?_, by omega, set_dg hL ⟨by omega, by omega⟩ j⟩
  have h1 := vb_set (b := 65536) hj ((t % 65536 : Nat) : Int)
  rw [Int.toNat_natCast] at h1
  have h2 := Nat.div_add_mod t 65536
  have h3 : 65536 ^ j * t = 65536 ^ j * (65536 * (t / 65536)) + 65536 ^ j * (t % 65536) := by rw [← Nat.mul_add, h2]
  have h4 : 65536 ^ j * t = 65536 ^ j * c + 65536 ^ j * (L.getD j 0).toNat + 65536 ^ j * (p * q) := by rw [ht, Nat.mul_add, Nat.mul_add]
  have h5 : t / 65536 * 65536 ^ (j + 1) = 65536 ^ j * (65536 * (t / 65536)) := by rw [Nat.pow_succ, Nat.mul_comm, Nat.mul_assoc]
  rw [h5, Nat.mul_comm c, Nat.mul_comm (p * q)]
  omega
end Go.Nt

/-
  The document's product (tillerref02.Mul): its pieces.
-/
namespace Go.Proofs.YtppakongkjdlbaaDoor
open Go.KRun Go.Nt
set_option maxRecDepth 100000
set_option linter.unusedVariables false

def muB (F : Func) : Code := cFst (cSnd (cSnd (cBody F)))
def muO (F : Func) : Code := cIn (cIn (cSnd (muB F)))
def muI (F : Func) : Code := cIn (cFst (cSnd (muO F)))
def muL (F : Func) : Code := cIn (cIn (cSnd (cFst (cSnd (muI F)))))
def muPr (F : Func) : List Code := [cFst (cBody F), cFst (cSnd (cBody F))]
def muE (F : Func) : Code := cSnd (cSnd (cSnd (cBody F)))
theorem umul_body : Tryd.f23.body = some (seqs (muPr Tryd.f23) (.seq (.seq (cFst (muB Tryd.f23)) (.block 0 (.loop (muO Tryd.f23)))) (muE Tryd.f23))) := by kernel_rfl
theorem umul_out : muO Tryd.f23 = .seq (cFst (muO Tryd.f23)) (.seq (.block 1 (muI Tryd.f23)) (cSnd (cSnd (muO Tryd.f23)))) := by kernel_rfl
theorem umul_row : muI Tryd.f23 = .seq (cFst (muI Tryd.f23)) (.seq (.seq (cFst (cFst (cSnd (muI Tryd.f23)))) (.block 2 (.loop (muL Tryd.f23)))) (cSnd (cSnd (muI Tryd.f23)))) := by kernel_rfl
def mFr (o n c o' n' c' z : Nat) (i v7 v8 : Value) : List Value := [sl 0 o n c, sl 1 o' n' c', undef, undef, nilS, sl 2 0 z z, i, v7, v8]
def hM3 (lo lb la : List Value) : Hp := ⟨3, [(lo, tU), (lb, tR), (la, tR)]⟩
def zM (n n' : Nat) : Int := IntKind.i64.wrap ((n : Int) + n')
def inM (j : Int) (n : Nat) : Bool × Bool := (decide (0 ≤ j ∧ j < (n : Int)), true)
def ceM (l : List Value) (o : Nat) (j x : Int) : Bool × Bool := (cellIs (l[o + j.toNat * 1]?) (.int .u32 x), true)
def stM (l : List Value) (j : Int) : Bool × Bool := (decide (0 + j.toNat * 1 < l.length), true)
def d65 : Bool × Bool := (decide ((65536 : Int) = 0), false)
def tM (c7 d p q : Int) : Int := IntKind.u64.wrap (IntKind.u64.wrap (c7 + IntKind.u64.wrap d) + IntKind.u64.wrap (IntKind.u64.wrap p * IntKind.u64.wrap q))
def ijM (i k : Int) : Int := IntKind.i64.wrap (i + k)
theorem mu_pre (o n c o' n' c' : Nat) (la lb : List Value) : GoesT (evL (tabH Tryd.prog extY conN hcV) 200 (muPr Tryd.f23) ([sl 0 o n c, sl 1 o' n' c'] ++ List.replicate 66 undef, h2 la lb, [at_]) ⟨[], [], []⟩) 6 62 none [sl 0 o n c, sl 1 o' n' c', undef, undef, nilS, sl 2 0 (zM n n').toNat (zM n n').toNat] (hM3 (List.replicate (zM n n').toNat (.int .u32 0)) lb la) [(okMakeB 4 (zM n n') (zM n n'), true)] := ⟨by kernel_rfl, by kernel_rfl, by kernel_rfl⟩
theorem mu_r2 (v0 v1 v5 : Value) (h : Hp) (g : Nat → Value) : GoesT (evC (tabH Tryd.prog extY conN hcV) 200 false (cFst (muB Tryd.f23)) ([v0, v1, undef, undef, nilS, v5] ++ tl 62 g, h, []) ⟨[], [], []⟩) 9 59 none [v0, v1, undef, undef, nilS, v5, .int .i64 0, g 1, g 2] h [] := ⟨by kernel_rfl, by kernel_rfl, by kernel_rfl⟩
theorem mu_h1 (o n c o' n' c' z : Nat) (i c7 k d p q : Int) (v7 v8 : Value) (lo lb la : List Value) (g : Nat → Value) : GoesT (evC (tabH Tryd.prog extY conN hcV) 200 false (cFst (muO Tryd.f23)) (mFr o n c o' n' c' z (.int .i64 i) v7 v8 ++ tl 59 g, hM3 lo lb la, [cmp true]) ⟨[], [], []⟩) 9 59 none (mFr o n c o' n' c' z (.int .i64 i) v7 v8) (hM3 lo lb la) [(decide (i < (n : Int)), true)] := ⟨by kernel_rfl, by kernel_rfl, by kernel_rfl⟩
theorem mu_h0 (o n c o' n' c' z : Nat) (i c7 k d p q : Int) (v7 v8 : Value) (lo lb la : List Value) (g : Nat → Value) : GoesT (evC (tabH Tryd.prog extY conN hcV) 200 false (cFst (muO Tryd.f23)) (mFr o n c o' n' c' z (.int .i64 i) v7 v8 ++ tl 59 g, hM3 lo lb la, [cmp false]) ⟨[], [], []⟩) 9 59 (some (some 0)) (mFr o n c o' n' c' z (.int .i64 i) v7 v8) (hM3 lo lb la) [(decide (i < (n : Int)), false)] := ⟨by kernel_rfl, by kernel_rfl, by kernel_rfl⟩
theorem mu_r5 (o n c o' n' c' z : Nat) (i c7 k d p q : Int) (v7 v8 : Value) (lo lb la : List Value) (g : Nat → Value) : GoesT (evC (tabH Tryd.prog extY conN hcV) 200 false (cFst (muI Tryd.f23)) (mFr o n c o' n' c' z (.int .i64 i) v7 v8 ++ tl 59 g, hM3 lo lb la, []) ⟨[], [], []⟩) 9 59 none (mFr o n c o' n' c' z (.int .i64 i) (.int .u64 0) v8) (hM3 lo lb la) [] := ⟨by kernel_rfl, by kernel_rfl, by kernel_rfl⟩
theorem mu_r6 (o n c o' n' c' z : Nat) (i c7 k d p q : Int) (v7 v8 : Value) (lo lb la : List Value) (g : Nat → Value) : GoesT (evC (tabH Tryd.prog extY conN hcV) 200 false (cFst (cFst (cSnd (muI Tryd.f23)))) (mFr o n c o' n' c' z (.int .i64 i) v7 v8 ++ tl 59 g, hM3 lo lb la, []) ⟨[], [], []⟩) 9 59 none (mFr o n c o' n' c' z (.int .i64 i) v7 (.int .i64 0)) (hM3 lo lb la) [] := ⟨by kernel_rfl, by kernel_rfl, by kernel_rfl⟩
theorem mu_in (o n c o' n' c' z : Nat) (i c7 k d p q : Int) (v7 v8 : Value) (lo lb la : List Value) (g : Nat → Value) : GoesT (evC (tabH Tryd.prog extY conN hcV) 200 false (muL Tryd.f23) (mFr o n c o' n' c' z (.int .i64 i) (.int .u64 c7) (.int .i64 k) ++ tl 59 g, hM3 lo lb la, [cmp true, at_, val (.int .u32 d), at_, val (.int .u32 p), at_, val (.int .u32 q), cmp true, at_, at_]) ⟨[], [], []⟩) 9 59 none (mFr o n c o' n' c' z (.int .i64 i) (.int .u64 (IntKind.u64.wrap ((tM c7 d p q).tdiv 65536))) (.int .i64 (IntKind.i64.wrap (k + 1)))) (hM3 (lo.set (0 + (ijM i k).toNat * 1) (.int .u32 (IntKind.u32.wrap ((tM c7 d p q).tmod 65536)))) lb la) [stM lo (ijM i k), inM (ijM i k) z, d65, ceM lb o' k q, inM k n', ceM la o i p, inM i n, ceM lo 0 (ijM i k) d, inM (ijM i k) z, (decide (k < (n' : Int)), true)] := ⟨by kernel_rfl, by kernel_rfl, by kernel_rfl⟩
theorem mu_out (o n c o' n' c' z : Nat) (i c7 k d p q : Int) (v7 v8 : Value) (lo lb la : List Value) (g : Nat → Value) : GoesT (evC (tabH Tryd.prog extY conN hcV) 200 false (muL Tryd.f23) (mFr o n c o' n' c' z (.int .i64 i) (.int .u64 c7) (.int .i64 k) ++ tl 59 g, hM3 lo lb la, [cmp false]) ⟨[], [], []⟩) 9 59 (some (some 2)) (mFr o n c o' n' c' z (.int .i64 i) (.int .u64 c7) (.int .i64 k)) (hM3 lo lb la) [(decide (k < (n' : Int)), false)] := ⟨by kernel_rfl, by kernel_rfl, by kernel_rfl⟩
theorem mu_r12 (o n c o' n' c' z : Nat) (i c7 k d p q : Int) (v7 v8 : Value) (lo lb la : List Value) (g : Nat → Value) : GoesT (evC (tabH Tryd.prog extY conN hcV) 200 false (cSnd (cSnd (muI Tryd.f23))) (mFr o n c o' n' c' z (.int .i64 i) (.int .u64 c7) v8 ++ tl 59 g, hM3 lo lb la, [at_, at_]) ⟨[], [], []⟩) 9 59 none (mFr o n c o' n' c' z (.int .i64 i) (.int .u64 c7) v8) (hM3 (lo.set (0 + (ijM i n').toNat * 1) (.int .u32 (IntKind.u32.wrap c7))) lb la) [stM lo (ijM i n'), inM (ijM i n') z] := ⟨by kernel_rfl, by kernel_rfl, by kernel_rfl⟩
theorem mu_r4 (o n c o' n' c' z : Nat) (i c7 k d p q : Int) (v7 v8 : Value) (lo lb la : List Value) (g : Nat → Value) : GoesT (evC (tabH Tryd.prog extY conN hcV) 200 false (cSnd (cSnd (muO Tryd.f23))) (mFr o n c o' n' c' z (.int .i64 i) v7 v8 ++ tl 59 g, hM3 lo lb la, []) ⟨[], [], []⟩) 9 59 none (mFr o n c o' n' c' z (.int .i64 (IntKind.i64.wrap (i + 1))) v7 v8) (hM3 lo lb la) [] := ⟨by kernel_rfl, by kernel_rfl, by kernel_rfl⟩
theorem mu_end (o n c o' n' c' z : Nat) (i c7 k d p q : Int) (v7 v8 : Value) (lo lb la : List Value) (g : Nat → Value) : GoesT (evC (tabH Tryd.prog extY conN hcV) 200 false (muE Tryd.f23) (mFr o n c o' n' c' z (.int .i64 i) v7 v8 ++ tl 59 g, hM3 lo lb la, []) ⟨[], [], []⟩) 5 63 (some none) [sl 0 o n c, sl 1 o' n' c', undef, undef, sl 2 0 (trimN (cutI lo 0 z)) (trimN (cutI lo 0 z))] (hM3 lo lb la) [(rowC tU lo 0 z z, true)] := ⟨by kernel_rfl, by kernel_rfl, by kernel_rfl⟩
end Go.Proofs.YtppakongkjdlbaaDoor
