/-
  PLAIN ARITHMETIC: square roots of whole numbers; the steps that go down to one.
-/
import Derived.Test.YtnolcojnodoecaaG30
namespace Go.Wd

theorem sq_nonneg' (x : Int) : 0 ≤ x * x := by
  rcases Int.le_total 0 x with h | h
  · exact Int.mul_nonneg h h
  · exact Int.mul_nonneg_of_nonpos_of_nonpos h h
theorem four_le (x z : Int) : 4 * (x * z) ≤ (x + z) * (x + z) := by
  have h := sq_nonneg' (x - z)
  rw [Int.sub_mul, Int.mul_sub, Int.mul_sub, Int.mul_comm z x] at h
  rw [Int.add_mul, Int.mul_add, Int.mul_add, Int.mul_comm z x]
  omega
theorem sq_mono {x y : Int} (h0 : 0 ≤ x) (h : x ≤ y) : x * x ≤ y * y := Int.mul_le_mul h h h0 (by omega)
theorem sq_dbl (x : Int) : 2 * x * (2 * x) = 4 * (x * x) := by
  rw [Int.mul_assoc, Int.mul_left_comm x 2 x]
  omega
theorem sq_suc (x : Int) : (x + 1) * (x + 1) = x * x + 2 * x + 1 := by
  rw [Int.add_mul, Int.mul_add]
  omega
/-- a step is never below the root -/
theorem mid_up {x a : Int} (hx : 1 ≤ x) (ha : 0 ≤ a) : a < ((x + a / x) / 2 + 1) * ((x + a / x) / 2 + 1) := by
  have y0 : 0 ≤ a / x := Int.ediv_nonneg ha (by omega)
  have e := Int.mul_ediv_add_emod a x
  have l := Int.emod_lt_of_pos a (show 0 < x by omega)
  have f := four_le x (a / x + 1)
  have s := sq_mono (x := x + (a / x + 1)) (y := 2 * ((x + a / x) / 2 + 1)) (by omega) (by omega)
  rw [sq_dbl] at s
  rw [Int.mul_add, Int.mul_one] at f
  omega
theorem mid_lim {x a : Int} (hx : 1 ≤ x) (h : a < (x + 1) * (x + 1)) : a / x < x + 3 := by
  apply Int.ediv_lt_of_lt_mul (by omega)
  rw [sq_suc] at h
  rw [Int.add_mul]
  omega
theorem mid_one {x a : Int} (hx : 1 ≤ x) (ha : 1 ≤ a) : 1 ≤ (x + a / x) / 2 := by
  have y0 : 0 ≤ a / x := Int.ediv_nonneg (by omega) (by omega)
  by_cases h : x = 1
  · subst h
    rw [Int.ediv_one]
    omega
  · omega
/-- a step that does not go down: the root is reached -/
theorem mid_end {x a : Int} (hx : 1 ≤ x) (h : x ≤ (x + a / x) / 2) : x * x ≤ a := by
  have e := Int.mul_ediv_add_emod a x
  have l := Int.emod_nonneg a (show x ≠ 0 by omega)
  have m : x * x ≤ x * (a / x) := Int.mul_le_mul_of_nonneg_left (by omega) (by omega)
  omega
/-- one more bit of a root -/
def sqB (n : Nat) : Nat → Nat
  | 0 => if 1 ≤ n then 1 else 0
  | r + 1 => if (r + 2) * (r + 2) ≤ n then r + 2 else r + 1
def isqf : Nat → Nat → Nat
  | 0, _ => 0
  | k + 1, n => sqB n (2 * isqf k (n / 4))
theorem sqB_eq (n r : Nat) : sqB n r = if (r + 1) * (r + 1) ≤ n then r + 1 else r := by
  cases r <;> rfl
theorem isqf_spec (k : Nat) : ∀ n, n < 4 ^ k → isqf k n * isqf k n ≤ n ∧ n < (isqf k n + 1) * (isqf k n + 1) := by
  induction k with
  | zero => intro n h; simp at h; subst h; exact ⟨by decide, by decide⟩
  | succ k ih =>
    intro n h
    obtain ⟨h1, h2⟩ := ih (n / 4) (by rw [Nat.pow_succ] at h; omega)
    show sqB n (2 * isqf k (n / 4)) * sqB n (2 * isqf k (n / 4)) ≤ n ∧ n < (sqB n (2 * isqf k (n / 4)) + 1) * (sqB n (2 * isqf k (n / 4)) + 1)
    rw [sqB_eq]
    generalize isqf k (n / 4) = r at *
    have e1 : 2 * r * (2 * r) = 4 * (r * r) := by rw [Nat.mul_assoc, Nat.mul_left_comm r 2 r]; omega
    have e2 : (r + 1) * (r + 1) = r * r + 2 * r + 1 := by rw [Nat.add_mul, Nat.mul_add]; omega
    have e3 : (2 * r + 1) * (2 * r + 1) = 4 * (r * r) + 4 * r + 1 := by rw [Nat.add_mul, Nat.mul_add, e1]; omega
    have e4 : (2 * r + 1 + 1) * (2 * r + 1 + 1) = 4 * (r * r) + 8 * r + 4 := by rw [Nat.add_mul, Nat.mul_add, e3]; omega
    split
    · rename_i h
      exact ⟨h, by omega⟩
    · exact ⟨by omega, by omega⟩
def isq (n : Nat) : Nat := isqf 128 n
theorem isq_spec {n : Nat} (h : n < 115792089237316195423570985008687907853269984665640564039457584007913129639936) : isq n * isq n ≤ n ∧ n < (isq n + 1) * (isq n + 1) := isqf_spec 128 n (by have : (4 : Nat) ^ 128 = 115792089237316195423570985008687907853269984665640564039457584007913129639936 := rfl; omega)
theorem isq_one {n : Nat} {x : Int} (hn : n < 115792089237316195423570985008687907853269984665640564039457584007913129639936) (h0 : 0 ≤ x) (h1 : x * x ≤ n) (h2 : (n : Int) < (x + 1) * (x + 1)) : x = (isq n : Nat) := by
  obtain ⟨s1, s2⟩ := isq_spec hn
  have s1 : ((isq n : Nat) : Int) * (isq n : Nat) ≤ n := by exact_mod_cast s1
  have s2 : (n : Int) < ((isq n : Nat) + 1) * ((isq n : Nat) + 1) := by exact_mod_cast s2
  rcases Int.lt_trichotomy x (isq n : Nat) with h | h | h
  · have := sq_mono (x := x + 1) (y := (isq n : Nat)) (by omega) (by omega)
    omega
  · exact h
  · have := sq_mono (x := ((isq n : Nat) : Int) + 1) (y := x) (by omega) (by omega)
    omega
end Go.Wd

/-
  wide.Sqrt, as a call: the root of any number, and the rest.
-/
namespace Go.Proofs.Ytnolcojnodoecaa
open Go.KRun Go.Wd
set_option maxRecDepth 100000

def low (J : List Value) : Prop := ∀ v ∈ J, lt 0 v = true
theorem map_low {J : List Value} (h : low J) (m : Nat → Nat) : J.map (rn m) = J := (List.map_congr_left fun v hv => rn_still (h v hv)).trans (List.map_id' _)
theorem low_ltW {J : List Value} (h : low J) {n : Nat} {v : Value} (hv : v ∈ J) : lt n v = true := lt_mono (Nat.zero_le _) (h v hv)
theorem sT_swp (a : W4) {J K : List Value} (hJ : low J) (hK : low K) : (sTW a (t_ 5) J K).map (rn (swp 4 5)) = sTW a (t_ 4) J K := by
  unfold sTW
  have e1 : rn (swp 4 5) (vW a) = vW a := rn_still (by rfl)
  have e2 : ∀ k, rn (swp 4 5) (t_ k) = t_ (swp 4 5 k) := fun k => by rfl
  rw [List.map_append, List.map_append, List.map_append, map_low hJ, map_low hK, List.map_replicate, rn_still (v := undef) (by rfl)]
  have e3 : rn (swp 4 5) undef = undef := rn_still (by rfl)
  simp only [List.map_cons, List.map_nil, e3, e1, e2]
  rfl
theorem sT_lt (a : W4) {J K : List Value} (hJ : low J) (hK : low K) : ∀ v ∈ sTW a (t_ 4) J K, lt 5 v = true := by
  intro v hv
  unfold sTW at hv
  rcases List.mem_append.1 hv with hv | hv
  · simp only [List.mem_cons, List.not_mem_nil, or_false] at hv
    rcases hv with rfl | rfl | rfl | rfl | rfl | rfl | rfl | rfl | rfl | rfl <;> rfl
  · rcases List.mem_append.1 hv with hv | hv
    · exact low_ltW hJ hv
    · rcases List.mem_append.1 hv with hv | hv
      · exact low_ltW hK hv
      · rw [List.eq_of_mem_replicate hv]; rfl
theorem sq_slide (a x y z : W4) {J K : List Value} (hJ : low J) (hK : low K) {m : Mp} {B : Nat} {s : List Dec} {a' : Act} {w : World} (R : Rel m B (sTW a (t_ 5) J K, hC a x y z, s) a' w) : ∃ m', Rel m' B (sTW a (t_ 4) J K, hBW a x z, s) a' w := by
  obtain ⟨m', h⟩ := slide (k := 4) R (by rfl) (fun v hv => sT_lt a hJ hK _ (by rw [← sT_swp a hJ hK]; exact List.mem_map_of_mem hv))
  rw [sT_swp a hJ hK] at h
  exact ⟨m', h⟩
theorem low_go (x a : W4) : low (kGo x a) := by
  intro v hv
  unfold kGo at hv
  simp only [List.mem_cons, List.not_mem_nil, or_false] at hv
  rcases hv with rfl | rfl | rfl | rfl | rfl | rfl | rfl | rfl <;> rfl
theorem low_up (x a : W4) {k : Value} (hk : lt 0 k = true) : low (kUp x a k) := by
  intro v hv
  unfold kUp at hv
  simp only [List.mem_cons, List.not_mem_nil, or_false] at hv
  rcases hv with rfl | rfl | rfl | rfl | rfl | rfl | rfl | rfl
  · rfl
  · rfl
  · rfl
  · rfl
  · rfl
  · rfl
  · rfl
  · exact hk
/-- what holds of a root that is sought -/
def seek (a x : W4) : Prop := x.ok ∧ 1 ≤ x.val ∧ x.val ≤ 340282366920938463463374607431768211456 ∧ a.val < (x.val + 1) * (x.val + 1)
def sInvW (a : W4) (n : Nat) (y : Lf) : Prop := ∃ (x : W4) (v5 : Value) (J K : List Value), J.length = 11 ∧ K.length = 8 ∧ low J ∧ low K ∧ y.1 = sTW a v5 J K ∧ (y.2.1 = hA a x ∨ ∃ z, y.2.1 = hBW a x z) ∧ seek a x ∧ n = x.val.toNat
def sDone (a : W4) (y : Lf) : Prop := ∃ (x z : W4) (J K : List Value), J.length = 11 ∧ K.length = 8 ∧ y.1 = sTW a (t_ 4) J K ∧ y.2.1 = hBW a x z ∧ x.ok ∧ 0 ≤ x.val ∧ x.val * x.val ≤ a.val ∧ a.val < (x.val + 1) * (x.val + 1)
theorem cmp_ge (x y : W4) : cmpI x y ≥ 0 ↔ y.val ≤ x.val := by
  unfold cmpI
  split
  · omega
  · split <;> omega
theorem step_of {a x : W4} (ha : a.ok) (h : seek a x) : (nW x a).val = (x.val + a.val / x.val) / 2 ∧ okLog [p2 (nW x a) x, mOkW x a] ∧ (nW x a).val < 115792089237316195423570985008687907853269984665640564039457584007913129639936 := by
  obtain ⟨ox, x1, x9, hi⟩ := h
  have ba := W4.val_bd ha
  have q0 : 0 ≤ a.val / x.val := Int.ediv_nonneg ba.1 (by omega)
  have q9 := mid_lim x1 hi
  have e : (nW x a).val = (x.val + a.val / x.val) / 2 := by
    unfold nW midI
    rw [W4.val_of, Int.emod_eq_of_lt (by omega) (by omega)]
  exact ⟨e, okCons (decide_eq_true ⟨W4.ok_of _, ox⟩) (okL1 (decide_eq_true ⟨ox, ha, by omega, by omega⟩)), by omega⟩
theorem seek_next {a x : W4} (ha : a.ok) (h1 : 1 ≤ a.val) (h : seek a x) (hl : (nW x a).val < x.val) : seek a (nW x a) := by
  obtain ⟨e, _, _⟩ := step_of ha h
  obtain ⟨ox, x1, x9, hi⟩ := h
  refine ⟨W4.ok_of _, by rw [e]; exact mid_one x1 h1, by omega, ?_⟩
  rw [e]
  exact mid_up x1 (by omega)
theorem sq_round {a : W4} (ha : a.ok) (h1 : 1 ≤ a.val) (n : Nat) (y : Lf) (h : sInvW a n y) : RunsW (tabOf Try.prog extY conSq true) (sLoopW Try.f61) y fun e y => match e with | none => ∃ n', n' < n ∧ sInvW a n' y | some e => e = some 0 ∧ sDone a y := by
  obtain ⟨t, h', s⟩ := y
  obtain ⟨x, v5, J, K, lJ, lK, hJ, hK, ht, hh, hs, hn⟩ := h
  simp only at ht hh
  obtain ⟨e, lg, lim⟩ := step_of ha hs
  match J, lJ, K, lK with
  | [j10, j11, j12, j13, j14, j15, j16, j17, j18, j19, j20], lJ, [k21, k22, k23, k24, k25, k26, k27, k28], lK =>
    have k28' : lt 0 k28 = true := hK k28 (by simp)
    subst ht
    by_cases hc : x.val ≤ (nW x a).val
    · have fin : x.val * x.val ≤ a.val := mid_end hs.2.1 (by omega)
      have hc' : (cg x a true).1 = (cg x a true).2 := decide_eq_true ((cmp_ge _ _).2 hc)
      rcases hh with rfl | ⟨z, rfl⟩
      · refine (goesT_runs (tabY_ok conSq_ok) (sqA_up a x v5 j10 j11 j12 j13 j14 j15 j16 j17 j18 j19 j20 k21 k22 k23 k24 k25 k26 k27 k28).t (okCons hc' lg)).w.mono fun e' y he => ?_
        obtain ⟨rfl, ⟨g, h2⟩, h3⟩ := he
        exact ⟨rfl, x, nW x a, _, _, lJ, rfl, by rw [h2]; exact List.append_nil _, h3, hs.1, by have := hs.2.1; omega, fin, hs.2.2.2⟩
      · refine (goesT_runs (tabY_ok conSq_ok) (sqB_up a x v5 j10 j11 j12 j13 j14 j15 j16 j17 j18 j19 j20 k21 k22 k23 k24 k25 k26 k27 k28 z).t (okCons hc' lg)).w.post fun e' y he => ?_
        obtain ⟨t2, m2, s2⟩ := y
        obtain ⟨rfl, ⟨g, h2⟩, h3⟩ := he
        simp only at h2 h3
        have h2 : t2 = _ := h2.trans (List.append_nil _)
        subst h2 h3
        exact ⟨_, ⟨rfl, x, nW x a, _, _, lJ, rfl, rfl, rfl, hs.1, by have := hs.2.1; omega, fin, hs.2.2.2⟩, fun m B a' w R => sq_slide a x z (nW x a) hJ (low_up x a k28') R⟩
    · have hc' : (cg x a false).1 = (cg x a false).2 := decide_eq_false (fun h => hc ((cmp_ge _ _).1 h))
      have sn := seek_next ha h1 hs (by omega)
      rcases hh with rfl | ⟨z, rfl⟩
      · refine (goesT_runs (tabY_ok conSq_ok) (sqA_go a x v5 j10 j11 j12 j13 j14 j15 j16 j17 j18 j19 j20 k21 k22 k23 k24 k25 k26 k27 k28).t (okCons hc' lg)).w.mono fun e' y he => ?_
        obtain ⟨rfl, ⟨g, h2⟩, h3⟩ := he
        exact ⟨_, by rw [hn]; have := sn.2.1; omega, nW x a, t_ 4, _, _, lJ, rfl, hJ, low_go x a, h2.trans (List.append_nil _), .inr ⟨_, h3⟩, sn, rfl⟩
      · refine (goesT_runs (tabY_ok conSq_ok) (sqB_go a x v5 j10 j11 j12 j13 j14 j15 j16 j17 j18 j19 j20 k21 k22 k23 k24 k25 k26 k27 k28 z).t (okCons hc' lg)).w.post fun e' y he => ?_
        obtain ⟨t2, m2, s2⟩ := y
        obtain ⟨rfl, ⟨g, h2⟩, h3⟩ := he
        simp only at h2 h3
        have h2 : t2 = _ := h2.trans (List.append_nil _)
        subst h2 h3
        exact ⟨_, ⟨_, by rw [hn]; have := sn.2.1; omega, nW x a, t_ 4, _, _, lJ, rfl, hJ, low_go x a, rfl, .inr ⟨_, rfl⟩, sn, rfl⟩, fun m B a' w R => sq_slide a (nW x a) z (nW x a) hJ (low_go x a) R⟩
def isI (a : W4) : Int := (isq a.val.toNat : Nat)
def rootV (a : W4) : Value := .tuple #[vW (W4.of (isI a)), vW (W4.of (a.val - isI a * isI a))]
theorem isI_spec {a : W4} (ha : a.ok) : 0 ≤ isI a ∧ isI a * isI a ≤ a.val ∧ a.val < (isI a + 1) * (isI a + 1) := by
  have b := W4.val_bd ha
  obtain ⟨h1, h2⟩ := isq_spec (n := a.val.toNat) (by omega)
  have h1 : ((isq a.val.toNat : Nat) : Int) * (isq a.val.toNat : Nat) ≤ (a.val.toNat : Nat) := by exact_mod_cast h1
  have h2 : ((a.val.toNat : Nat) : Int) < ((isq a.val.toNat : Nat) + 1) * ((isq a.val.toNat : Nat) + 1) := by exact_mod_cast h2
  rw [Int.toNat_of_nonneg b.1] at h1 h2
  unfold isI
  exact ⟨by omega, h1, h2⟩
/-- the root that is begun with -/
theorem start_of {a : W4} (ha : a.ok) (h1 : 1 ≤ a.val) : ∃ k : Nat, 1 ≤ k ∧ k ≤ 128 ∧ IntKind.i64.wrap ((IntKind.i64.wrap (lenI a + 1)).tdiv 2) = k ∧ seek a (shlW ⟨1, 0, 0, 0⟩ k) := by
  have bd := W4.val_bd ha
  have hV : a.val.toNat ≠ 0 := by omega
  obtain ⟨s1, s2⟩ := bitLen_spec a.val.toNat
  have s2 := s2 hV
  have hk1 : bitLen a.val.toNat ≠ 0 := by intro h0; rw [h0] at s1; simp at s1; omega
  have hk2 : bitLen a.val.toNat ≤ 256 := by
    rcases Nat.lt_or_ge 256 (bitLen a.val.toNat) with hh | hh
    · have h1 : 2 ^ 256 ≤ 2 ^ (bitLen a.val.toNat - 1) := Nat.pow_le_pow_right (by omega) (by omega)
      have h2 : (2 : Nat) ^ 256 = 115792089237316195423570985008687907853269984665640564039457584007913129639936 := rfl
      rw [h2] at h1
      omega
    · exact hh
  have hi : a.val < (2 : Int) ^ bitLen a.val.toNat := by rw [← cast_pow']; omega
  unfold lenI
  generalize bitLen a.val.toNat = k at *
  refine ⟨(k + 1) / 2, by omega, by omega, ?_, ?_⟩
  · rw [wrap_i64' (n := (k : Int) + 1) (by omega) (by omega), Int.tdiv_eq_ediv_of_nonneg (by omega), wrap_i64' (by omega) (by omega)]
    omega
  · have p := pow_pos2' ((k + 1) / 2)
    have q : (2 : Int) ^ ((k + 1) / 2) ≤ 2 ^ 128 := pow_mono2 (by omega)
    rw [show (2 : Int) ^ 128 = 340282366920938463463374607431768211456 from rfl] at q
    have e : (shlW ⟨1, 0, 0, 0⟩ (((k + 1) / 2 : Nat) : Int)).val = 2 ^ ((k + 1) / 2) := by
      unfold shlW
      rw [if_neg (by omega), if_neg (by omega), W4.val_of, Int.toNat_natCast, show (⟨1, 0, 0, 0⟩ : W4).val = 1 from rfl, Int.one_mul, Int.emod_eq_of_lt (by omega) (by omega)]
    have o : (shlW ⟨1, 0, 0, 0⟩ (((k + 1) / 2 : Nat) : Int)).ok := by
      unfold shlW
      rw [if_neg (by omega), if_neg (by omega)]
      exact W4.ok_of _
    refine ⟨o, by omega, by omega, ?_⟩
    have m : (2 : Int) ^ k ≤ 2 ^ ((k + 1) / 2 + (k + 1) / 2) := pow_mono2 (by omega)
    rw [Int.pow_add] at m
    rw [e, sq_suc]
    omega
theorem sqrt_calls (a : W4) (ha : a.ok) (w : World) : Calls Try.prog 61 #[vW a] w fun e w' => e = .returned (rootV a) ∧ Tidy w w' := by
  have bd := W4.val_bd ha
  by_cases hz : a.val = 0
  · have e : a = z4 := W4.val_inj ha (by decide) (by rw [hz]; rfl)
    subst e
    exact fits_calls (tabY_ok conSq_ok) (sq_zero z4) (okL1 (by rfl)) (by rfl) (by rfl) w
  obtain ⟨k, k1, k9, ek, sk⟩ := start_of ha (by omega)
  have pre := sq_pre a
  rw [ek] at pre
  have ok1 : (⟨1, 0, 0, 0⟩ : W4).ok := by decide
  have l1 : (lk ⟨1, 0, 0, 0⟩ (k : Int)).1 = (lk ⟨1, 0, 0, 0⟩ (k : Int)).2 := lk_ok ok1 (by omega) (by omega)
  have l2 : (okQ a).1 = (okQ a).2 := decide_eq_true ha
  have l3 : eqW a z4 = false := by
    cases h : eqW a z4
    · rfl
    · rw [eqW_iff.1 h] at hz; exact absurd rfl hz
  obtain ⟨g, s', L, hr, hL⟩ := goesT_some pre (okCons l1 (okCons l2 (okCons l1 (okCons l2 (okCons l1 (okCons l1 (okCons l2 (okL1 l3))))))))
  refine calls_of_runsW (T := (tabOf Try.prog extY conSq true)) Try.func61 sq_body (vals := [vW a]) (by rfl) (by rfl) ?_ w
  refine goesT_listW (tabY_ok conSq_ok) pre (okCons l1 (okCons l2 (okCons l1 (okCons l2 (okCons l1 (okCons l1 (okCons l2 (okL1 l3)))))))) fun g => ?_
  refine RunsW.seq (P1 := fun e y => e = none ∧ sDone a y) ?_ ?_ (fun e y he => by cases he.1)
  · refine RunsW.block (P1 := fun e y => match e with | none => False | some e => e = some 0 ∧ sDone a y) ?_ (fun y he => he.elim) (fun y he => by cases he.1) (fun y he => ⟨rfl, he.2⟩) (fun id' y hid he => absurd (Option.some.inj he.1) hid)
    refine RunsW.loop (sInvW a) (fun n y hI => (sq_round ha (by omega) n y hI).mono fun e y he => ?_) (n := (shlW ⟨1, 0, 0, 0⟩ (k : Int)).val.toNat) ⟨_, undef, _, _, rfl, rfl, ?_, ?_, List.append_nil _, .inl rfl, sk, rfl⟩
    · match e, he with
      | none, he => exact he
      | some e, he => exact he
    · intro v hv
      simp only [List.mem_cons, List.not_mem_nil, or_false] at hv
      rcases hv with rfl | rfl | rfl | rfl | rfl | rfl | rfl | rfl | rfl | rfl | rfl <;> rfl
    · intro v hv
      rw [List.eq_of_mem_replicate hv]; rfl
  · rintro ⟨t, h', s⟩ ⟨_, x, z, J, K, lJ, lK, ht, hh, ox, x0, xl, xh⟩
    simp only at ht hh
    subst ht hh
    match J, lJ, K, lK with
    | [j10, j11, j12, j13, j14, j15, j16, j17, j18, j19, j20], _, [k21, k22, k23, k24, k25, k26, k27, k28], _ =>
      have ex : x.val = isI a := isq_one (by omega) x0 (by omega) (by omega)
      have x9 := W4.val_bd ox
      refine (goesT_runs (tabY_ok conSq_ok) (sq_end a x (t_ 4) j10 j11 j12 j13 j14 j15 j16 j17 j18 j19 j20 k21 k22 k23 k24 k25 k26 k27 k28 z) (okCons (decide_eq_true ⟨ha, W4.ok_of _⟩) (okL1 (decide_eq_true ⟨ox, ox⟩)))).w.mono fun e y he => ?_
      obtain ⟨rfl, ⟨g2, h2⟩, h3⟩ := he
      refine ⟨.inr rfl, ?_⟩
      have e1 : W4.of (a.val - (W4.of (x.val * x.val)).val) = W4.of (a.val - isI a * isI a) := by
        rw [W4.val_of, Int.emod_eq_of_lt (sq_nonneg' _) (by omega), ex]
      have e2 : x = W4.of (isI a) := by rw [← ex, W4.of_val ox]
      unfold rootV
      rw [h2, h3, e1, ← e2]
      rfl
end Go.Proofs.Ytnolcojnodoecaa
