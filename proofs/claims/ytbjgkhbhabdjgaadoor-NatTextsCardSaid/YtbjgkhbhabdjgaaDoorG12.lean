/-
  PLAIN ARITHMETIC: which of two numbers of words is less; a difference, word by word.
-/
import Derived.Test.YtbjgkhbhabdjgaaDoorG10
import Derived.Test.YtbjgkhbhabdjgaaDoorG11
namespace Go.Nt

theorem dif_step {P a b c x y d e A B : Int} (he : x - y - c = d - 4294967296 * e) (h : a + P * (x + 4294967296 * A - (y + 4294967296 * B) - c) = b) : a + P * d + 4294967296 * P * (A - B - e) = b := by
  rw [← h]
  have e1 : x + 4294967296 * A - (y + 4294967296 * B) - c = d + 4294967296 * (A - B - e) := by omega
  rw [e1]
  generalize A - B - e = Z
  rw [Int.mul_add P d, ← Int.mul_assoc P 4294967296 Z, Int.mul_comm P 4294967296]
  omega
/-- a highest word that is not 0 -/
theorem vN_low {L : List Int} (h : wds L) (h0 : 0 < L.length) (ht : L.getD (L.length - 1) 0 ≠ 0) : 4294967296 ^ (L.length - 1) ≤ vN L := by
  induction L with
  | nil => simp at h0
  | cons x r ih =>
    obtain ⟨h1, h2⟩ := wds_tail h
    cases r with
    | nil =>
      simp at ht ⊢
      simp [vN]
      omega
    | cons y r =>
      have := ih h2 (by simp) (by simpa using ht)
      simp only [List.length_cons, Nat.add_sub_cancel] at this ⊢
      rw [pw]
      have e : vN (x :: y :: r) = x + 4294967296 * vN (y :: r) := rfl
      rw [e]
      omega
theorem take_succ {L : List Int} {k : Nat} (h : k < L.length) : L.take (k + 1) = L.take k ++ [L.getD k 0] := by
  rw [List.take_add_one, List.getElem?_eq_getElem h]
  simp [List.getD, List.getElem?_eq_getElem h]
theorem wds_take {L : List Int} (h : wds L) (k : Nat) : wds (L.take k) := fun x hx => h x (List.mem_of_mem_take hx)
theorem topCmp_val {L M : List Int} (hL : wds L) (hM : wds M) : ∀ k, k ≤ L.length → k ≤ M.length → (topCmp L M k < 0 ↔ vN (L.take k) < vN (M.take k)) ∧ (topCmp L M k = 0 ↔ vN (L.take k) = vN (M.take k))
  | 0, _, _ => by simp [topCmp, vN]
  | k + 1, h1, h2 => by
    have ih := topCmp_val hL hM k (by omega) (by omega)
    have bL := vN_bd (L.take k) (wds_take hL k)
    have bM := vN_bd (M.take k) (wds_take hM k)
    have lL : (L.take k).length = k := by simp; omega
    have lM : (M.take k).length = k := by simp; omega
    rw [lL] at bL
    rw [lM] at bM
    rw [take_succ (by omega : k < L.length), take_succ (by omega : k < M.length), vN_snoc, vN_snoc, lL, lM]
    simp only [topCmp]
    generalize L.getD k 0 = x
    generalize M.getD k 0 = y
    have hp := pw_pos k
    by_cases hxy : x = y
    · subst hxy
      rw [if_pos rfl]
      omega
    · rw [if_neg hxy]
      by_cases hlt : x < y
      · rw [if_pos hlt]
        have : 4294967296 ^ k * x + 4294967296 ^ k ≤ 4294967296 ^ k * y := by
          have := Int.mul_le_mul_of_nonneg_left (show x + 1 ≤ y by omega) (Int.le_of_lt hp)
          rw [Int.mul_add, Int.mul_one] at this
          exact this
        omega
      · rw [if_neg hlt]
        have : 4294967296 ^ k * y + 4294967296 ^ k ≤ 4294967296 ^ k * x := by
          have := Int.mul_le_mul_of_nonneg_left (show y + 1 ≤ x by omega) (Int.le_of_lt hp)
          rw [Int.mul_add, Int.mul_one] at this
          exact this
        omega
/-- words that are a number: the highest is not 0 -/
def canon (L : List Int) : Prop := wds L ∧ (L.length = 0 ∨ L.getD (L.length - 1) 0 ≠ 0)
theorem cmpL_val {L M : List Int} (hL : canon L) (hM : canon M) : (cmpL L M < 0 ↔ vN L < vN M) ∧ (cmpL L M = 0 ↔ vN L = vN M) := by
  obtain ⟨wL, tL⟩ := hL
  obtain ⟨wM, tM⟩ := hM
  unfold cmpL
  by_cases hl : L.length = M.length
  · rw [if_pos hl]
    have := topCmp_val wL wM L.length (Nat.le_refl _) (by omega)
    rw [List.take_length, hl, List.take_length] at this
    rw [hl]
    exact this
  · rw [if_neg hl]
    have bL := vN_bd L wL
    have bM := vN_bd M wM
    by_cases hlt : L.length < M.length
    · rw [if_pos hlt]
      have h1 := vN_low wM (by omega) (by rcases tM with h | h; omega; exact h)
      have h2 := pw_le (show L.length ≤ M.length - 1 by omega)
      omega
    · rw [if_neg hlt]
      have h1 := vN_low wL (by omega) (by rcases tL with h | h; omega; exact h)
      have h2 := pw_le (show M.length ≤ L.length - 1 by omega)
      omega
end Go.Nt

/-
  PLAIN ARITHMETIC: words moved up.
-/
namespace Go.Nt

theorem dg_mod : ∀ (m : Nat) (V c : Int), dg m (V + 4294967296 ^ m * c) = dg m V
  | 0, _, _ => rfl
  | m + 1, V, c => by
    simp only [dg]
    rw [pw, Int.mul_assoc]
    generalize hZ : (4294967296 : Int) ^ m * c = Z
    have e1 : (V + 4294967296 * Z) % 4294967296 = V % 4294967296 := by omega
    have e2 : (V + 4294967296 * Z) / 4294967296 = V / 4294967296 + Z := by omega
    rw [e1, e2, ← hZ, dg_mod m]
/-- the two powers of a move by less than a word -/
theorem two_parts {k : Nat} (h : k ≤ 32) : (2 : Int) ^ k * 2 ^ (32 - k) = 4294967296 := by
  rw [← Int.pow_add, show k + (32 - k) = 32 from by omega]
  rfl
theorem or_add {k : Nat} {z y : Int} (z0 : 0 ≤ z) (y0 : 0 ≤ y) (y1 : y < 2 ^ k) (hs : 2 ^ k * z + y < 4294967296) : (((BitVec.ofInt 32 (2 ^ k * z) ||| BitVec.ofInt 32 y).toNat : Nat) : Int) = 2 ^ k * z + y := by
  obtain ⟨Z, rfl⟩ := Int.eq_ofNat_of_zero_le z0
  obtain ⟨Y, rfl⟩ := Int.eq_ofNat_of_zero_le y0
  have ex : (2 : Int) ^ k * (Z : Nat) = ((2 ^ k * Z : Nat) : Int) := by simp
  have hY : Y < 2 ^ k := by
    have : ((Y : Nat) : Int) < ((2 ^ k : Nat) : Int) := by simpa using y1
    exact Int.ofNat_lt.1 this
  rw [ex] at hs ⊢
  have hX : 2 ^ k * Z + Y < 4294967296 := by omega
  have e1 : ∀ m : Nat, m < 4294967296 → (BitVec.ofInt 32 (m : Int)).toNat = m := fun m hm => by
    simp
    omega
  rw [BitVec.toNat_or, e1 _ (by omega), e1 _ (by omega), ← Nat.two_pow_add_eq_or_of_lt hY]
  omega
/-- one word moved up -/
theorem up_word {x l q r : Int} (hq : 1 ≤ q) (hr : 1 ≤ r) (hqr : q * r = 4294967296) (hx : 0 ≤ x ∧ x < 4294967296) (hl : 0 ≤ l ∧ l < q) :
    x * q = 4294967296 * (x / r) + q * (x % r) ∧ 0 ≤ q * (x % r) ∧ q * (x % r) + l < 4294967296 ∧ 0 ≤ x / r ∧ x / r < q := by
  have h1 := Int.mul_ediv_add_emod x r
  have h2 := Int.emod_nonneg x (show r ≠ 0 by omega)
  have h3 := Int.emod_lt_of_pos x (show 0 < r by omega)
  have h4 : 0 ≤ x / r := Int.ediv_nonneg hx.1 (by omega)
  generalize x / r = hi at *
  generalize x % r = lo at *
  have e1 : x * q = 4294967296 * hi + q * lo := by
    rw [← h1, ← hqr, Int.add_mul, Int.mul_assoc q r hi, Int.mul_comm (r * hi) q, Int.mul_comm lo q]
  have e2 : q * lo + q ≤ 4294967296 := by
    have := Int.mul_le_mul_of_nonneg_left (show lo + 1 ≤ r by omega) (show 0 ≤ q by omega)
    rw [Int.mul_add, Int.mul_one, hqr] at this
    exact this
  refine ⟨e1, Int.mul_nonneg (by omega) h2, by omega, h4, ?_⟩
  rcases Int.lt_or_le hi q with h | h
  · exact h
  · exfalso
    have := Int.mul_le_mul_of_nonneg_left h (show 0 ≤ r by omega)
    rw [Int.mul_comm r q, hqr] at this
    omega
/-- one word more of a number moved up -/
theorem up_step {P a b q x l d e A : Int} (he : x * q + l = d + 4294967296 * e) (h : a + P * ((x + 4294967296 * A) * q + l) = b) : a + P * d + 4294967296 * P * (A * q + e) = b := by
  rw [← h]
  have e1 : (x + 4294967296 * A) * q + l = d + 4294967296 * (A * q + e) := by
    rw [Int.add_mul, Int.mul_assoc]
    omega
  rw [e1]
  generalize A * q + e = Z
  rw [Int.mul_add P d, ← Int.mul_assoc P 4294967296 Z, Int.mul_comm P 4294967296]
  omega
end Go.Nt

/-
  nat.moveUp, as a call.
-/
namespace Go.Proofs.YtbjgkhbhabdjgaaDoor
open Go.KRun Go.Nt
set_option maxRecDepth 100000

def upU (x k : Int) : Int := IntKind.u32.wrap (x * 2 ^ min k.toNat 32)
def newU (x k l : Int) : Int := brr (upU x k) l
def lowU (x k : Int) : Int := x.fdiv (2 ^ min (IntKind.i64.wrap (32 - k)).toNat 32)
theorem up32 {x l : Int} {k : Nat} (hx : 0 ≤ x ∧ x < 4294967296) (hl : 0 ≤ l ∧ l < 2 ^ k) (hk : k < 32) :
    (0 ≤ newU x k l ∧ newU x k l < 4294967296) ∧ (0 ≤ lowU x k ∧ lowU x k < 2 ^ k) ∧ x * 2 ^ k + l = newU x k l + 4294967296 * lowU x k := by
  have q1 : (1 : Int) ≤ 2 ^ k := by have : (0 : Int) < 2 ^ k := Int.pow_pos (by omega); omega
  have r1 : (1 : Int) ≤ 2 ^ (32 - k) := by have : (0 : Int) < 2 ^ (32 - k) := Int.pow_pos (by omega); omega
  obtain ⟨u1, u2, u3, u4, u5⟩ := up_word q1 r1 (two_parts (by omega)) hx hl
  have eL : lowU x k = x / 2 ^ (32 - k) := by
    unfold lowU
    rw [wrapI (by omega) (by omega), show min ((32 : Int) - (k : Nat)).toNat 32 = 32 - k from by omega, Int.fdiv_eq_ediv_of_nonneg _ (by omega)]
  have eU : upU x k = 2 ^ k * (x % 2 ^ (32 - k)) := by
    unfold upU
    rw [Int.toNat_natCast, show min k 32 = k from by omega, u32w, u1]
    omega
  have lo0 := Int.emod_nonneg x (show (2 : Int) ^ (32 - k) ≠ 0 by omega)
  have eN : newU x k l = 2 ^ k * (x % 2 ^ (32 - k)) + l := by
    unfold newU brr
    rw [eU, or_add lo0 hl.1 hl.2 u3, u32w]
    omega
  rw [eL, eN]
  omega
def mR0 (F : Func) : List Code := [cFst (cBody F), cFst (cSnd (cBody F))]
def mL (F : Func) : Code := cIn (cIn (cSnd (cSnd (cBody F))))
theorem mup_body : Tryd.f47.body = some (seqs (mR0 Tryd.f47) (.block 0 (.loop (mL Tryd.f47)))) := by kernel_rfl
def mF (w k l i x s n j : Value) : List Value := [w, k, undef, undef, l, i, x, s, n, j]
def hU (S la : List Value) : Hp := ⟨2, [(S, tU), (la, tR)]⟩
theorem mup_pre (b o n c : Nat) (k : Value) (h : Hp) : GoesT (evL (tabOf Tryd.prog extY conN true) 100 (mR0 Tryd.f47) ([sl b o n c, k] ++ List.replicate 25 undef, h, []) ⟨[], [], []⟩) 10 17 none (mF (sl b o n c) k (uu 0) undef undef (sl b o n c) (i6' n) (i6' 0)) h [] := ⟨by kernel_rfl, by kernel_rfl, by kernel_rfl⟩
theorem mup_out (w k l i x s : Value) (n : Nat) (j : Int) (h : Hp) (g : Nat → Value) : GoesT (evC (tabOf Tryd.prog extY conN true) 100 false (mL Tryd.f47) (mF w k l i x s (i6' n) (i6' j) ++ tl 17 g, h, [cmp false]) ⟨[], [], []⟩) 10 17 (some (some 0)) (mF w k l i x s (i6' n) (i6' j)) h [(decide (j < n), false)] := ⟨by kernel_rfl, by kernel_rfl, by kernel_rfl⟩
theorem mup_go (o n c : Nat) (k l j x : Int) (i0 x0 : Value) (la S : List Value) (g : Nat → Value) : GoesT (evC (tabOf Tryd.prog extY conN true) 100 false (mL Tryd.f47) (mF (sl 1 o n c) (i6' k) (uu l) i0 x0 (sl 1 o n c) (i6' n) (i6' j) ++ tl 17 g, hU S la, [cmp true, at_, val (uu x), at_, at_]) ⟨[], [], []⟩) 10 17 none
    (mF (sl 1 o n c) (i6' k) (uu (lowU x k)) (i6' j) (uu x) (sl 1 o n c) (i6' n) (i6' (IntKind.i64.wrap (j + 1)))) (hU (S.set (o + j.toNat * 1) (uu (newU x k l))) la) [(decide (IntKind.i64.wrap (32 - k) < 0), false), (decide (o + j.toNat * 1 < S.length), true), inR j n, (decide (k < 0), false), celR S o j x, inR j n, (decide (j < n), true)] := ⟨by kernel_rfl, by kernel_rfl, by kernel_rfl⟩
theorem mup_res (w k l i x s n j : Value) (h : Hp) (g : Nat → Value) : resS Tryd.prog Tryd.f47 (mF w k l i x s n j ++ tl 17 g) h = some (.tuple #[]) := by kernel_rfl
end Go.Proofs.YtbjgkhbhabdjgaaDoor
