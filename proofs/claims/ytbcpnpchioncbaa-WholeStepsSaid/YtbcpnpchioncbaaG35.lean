/-
  PLAIN ARITHMETIC: a rest found piece by piece.
-/
import Derived.Test.YtbcpnpchioncbaaG33
import Derived.Test.YtbcpnpchioncbaaG34
namespace Go.Rn
open Go.Nt Go.Wd Go.Pt

/-- what is divided by, moved up by 64 at most -/
def paV (a b : Int) : Nat := (sg b).toNat * 2 ^ (min (xp b - wlE a b).toNat 64)
def paK (a b : Int) : Nat := (xp a - wlE a b).toNat
def paO (a b : Int) : Bool := decide (wlU a b / wlV a b % 2 = 1)
theorem piece_mod (A V k s : Nat) : A * 2 ^ k % V * 2 ^ s % V = A * 2 ^ (k + s) % V := by
  rw [Nat.mul_mod, Nat.mod_mod, ← Nat.mul_mod, Nat.mul_assoc, ← Nat.pow_add]
theorem piece_odd {A V k s : Nat} (hV : 0 < V) (hs : 1 ≤ s) : (A * 2 ^ k % V * 2 ^ s / V % 2 = 1) ↔ (A * 2 ^ (k + s) / V % 2 = 1) := by
  obtain ⟨X, hX⟩ : ∃ X, X = A * 2 ^ k := ⟨_, rfl⟩
  obtain ⟨t, rfl⟩ : ∃ t, s = t + 1 := ⟨s - 1, by omega⟩
  rw [show A * 2 ^ (k + (t + 1)) = X * 2 ^ (t + 1) by rw [hX, Nat.pow_add, Nat.mul_assoc], ← hX]
  have e : X * 2 ^ (t + 1) = V * (X / V * 2 ^ (t + 1)) + X % V * 2 ^ (t + 1) := by
    have := Nat.div_add_mod X V
    rw [← Nat.mul_assoc, ← Nat.add_mul, this]
  rw [e, Nat.mul_add_div hV]
  generalize X % V * 2 ^ (t + 1) / V = q
  rw [Nat.pow_succ, ← Nat.mul_assoc]
  generalize X / V * 2 ^ t = p
  omega
theorem pa_small {a b : Int} (h : 0 < paK a b) : wlE a b = xp b ∧ paV a b = (sg b).toNat ∧ wlV a b = (sg b).toNat := by
  obtain ⟨_, _, h1, h2, h3⟩ := wlE_bd a b
  have e : wlE a b = xp b := by unfold paK at h; omega
  unfold paV wlV
  rw [e, Int.sub_self]
  exact ⟨rfl, by simp, by simp⟩
theorem paV_bd (a b : Int) : paV a b < 2 ^ 117 ∧ (sg b ≠ 0 → 0 < paV a b) := by
  have sb := sg_lt b
  have hp : 2 ^ (min (xp b - wlE a b).toNat 64) ≤ 2 ^ 64 := Nat.pow_le_pow_right (by omega) (Nat.min_le_right _ _)
  unfold paV
  refine ⟨?_, fun h => Nat.mul_pos (by omega) (Nat.pow_pos (by omega))⟩
  have := Nat.mul_le_mul (show (sg b).toNat ≤ 9007199254740991 by omega) hp
  exact Nat.lt_of_le_of_lt this (by decide)
theorem pa_num {a b : Int} (hb : sg b ≠ 0) : (sg a).toNat * 2 ^ paK a b % paV a b = rsM a b ∧ ((sg a).toNat * 2 ^ paK a b / paV a b % 2 = 1 ↔ wlU a b / wlV a b % 2 = 1) := by
  have sa := sg_lt a
  have sb := sg_lt b
  have eU : wlU a b = (sg a).toNat * 2 ^ paK a b := rfl
  rw [← eU]
  unfold rsM
  rcases Nat.eq_zero_or_pos (paK a b) with h0 | h0
  · have eU0 : wlU a b = (sg a).toNat := by rw [eU, h0]; simp
    rw [eU0]
    by_cases hk : (xp b - wlE a b).toNat ≤ 64
    · have : paV a b = wlV a b := by unfold paV wlV; rw [Nat.min_eq_left hk]
      rw [this]
      exact ⟨rfl, Iff.rfl⟩
    · have e1 : paV a b = (sg b).toNat * 2 ^ 64 := by unfold paV; rw [Nat.min_eq_right (by omega)]
      have g1 : 2 ^ 64 ≤ paV a b := by rw [e1]; exact Nat.le_mul_of_pos_left _ (by omega)
      have g2 : paV a b ≤ wlV a b := by
        rw [e1]; unfold wlV
        exact Nat.mul_le_mul_left _ (Nat.pow_le_pow_right (by omega) (by omega))
      have l1 : (sg a).toNat < paV a b := by omega
      have l2 : (sg a).toNat < wlV a b := by omega
      rw [Nat.mod_eq_of_lt l1, Nat.mod_eq_of_lt l2, Nat.div_eq_of_lt l1, Nat.div_eq_of_lt l2]
      exact ⟨rfl, Iff.rfl⟩
  · obtain ⟨_, h2, h3⟩ := pa_small h0
    rw [h2, h3]
    exact ⟨rfl, Iff.rfl⟩
/-- twice the rest against what was divided by, moved up by 64 at most or not -/
theorem pa_cmp {a b : Int} (hb : sg b ≠ 0) : (paV a b < 2 * rsM a b ↔ wlV a b < 2 * rsM a b) ∧ (2 * rsM a b = paV a b ↔ 2 * rsM a b = wlV a b) ∧ (wlV a b ≤ 2 * rsM a b → paV a b = wlV a b) := by
  have sa := sg_lt a
  have sb := sg_lt b
  obtain ⟨_, hM, _, _⟩ := rs_bd (a := a) hb
  by_cases hk : (xp b - wlE a b).toNat ≤ 64
  · have : paV a b = wlV a b := by unfold paV wlV; rw [Nat.min_eq_left hk]
    rw [this]
    exact ⟨Iff.rfl, Iff.rfl, fun _ => rfl⟩
  · have e1 : paV a b = (sg b).toNat * 2 ^ 64 := by unfold paV; rw [Nat.min_eq_right (by omega)]
    have g1 : 2 ^ 64 ≤ paV a b := by rw [e1]; exact Nat.le_mul_of_pos_left _ (by omega)
    have g2 : paV a b ≤ wlV a b := by
      rw [e1]; unfold wlV
      exact Nat.mul_le_mul_left _ (Nat.pow_le_pow_right (by omega) (by omega))
    exact ⟨by omega, by omega, by omega⟩
end Go.Rn

/-
  whole.part, as a call in every world: its loop.
-/
namespace Go.Proofs.Ytbcpnpchioncbaa
open Go.KRun Go.Wd Go.Pt Go.Rn
set_option maxRecDepth 100000

theorem paE_eq (a b : Int) : paE a b = wlE a b := by unfold paE mn wlE; split <;> split <;> omega
theorem paS_eq (a b : Int) : paS a b = ((min (xp b - wlE a b).toNat 64 : Nat) : Int) := by
  obtain ⟨h0, h1, h2, h3, _⟩ := wlE_bd a b
  have xb := xp_bd b
  unfold paS
  rw [paE_eq, wrapI' ⟨by omega, by omega⟩]
  unfold mn
  split <;> omega
theorem shl_nat {x : W4} {X s : Nat} (hx : x.ok) (hX : x.val = (X : Int)) (hs : s < 256) (hb : X * 2 ^ s < 2 ^ 256) : (shlW x (s : Int)).ok ∧ (shlW x (s : Int)).val = ((X * 2 ^ s : Nat) : Int) := by
  unfold shlW
  by_cases h0 : (s : Int) < 1
  · rw [if_pos h0]
    have : s = 0 := by omega
    subst this
    exact ⟨hx, by rw [hX]; simp⟩
  · rw [if_neg h0, if_neg (by omega), Int.toNat_natCast]
    have e : x.val * 2 ^ s = ((X * 2 ^ s : Nat) : Int) := by rw [hX, Int.natCast_mul, ← cast_pow]
    have h2 : (2 : Nat) ^ 256 = 115792089237316195423570985008687907853269984665640564039457584007913129639936 := rfl
    rw [h2] at hb
    rw [e]
    exact ⟨W4.ok_of _, by rw [W4.val_of, Int.emod_eq_of_lt (by omega) (by omega)]⟩
theorem paBy_num (a b : Int) : (paBy a b).ok ∧ (paBy a b).val = (paV a b : Nat) := by
  have sb := sg_lt b
  have bd := (paV_bd a b).1
  unfold paBy
  rw [paS_eq]
  exact shl_nat (X := (sg b).toNat) (wSg_ok b) (by rw [wSg_val]; omega) (Nat.lt_of_le_of_lt (Nat.min_le_right _ _) (by omega)) (Nat.lt_trans bd (by decide))
theorem of_nat (x : W4) (hx : x.ok) {X : Nat} (h : x.val = (X : Int)) : x = ofN X := by
  unfold ofN
  rw [← h, W4.of_val hx]
def paInv (a b : Int) (n : Nat) (x : Lf) : Prop := ∃ (k : Nat) (l : Int) (c : Bool) (r : W4) (g : Nat → Value), x.1 = fPa a b (wlE a b) c l ++ tl 55 g ∧ x.2.1 = hPa a b (paBy a b) r (pzL false 0 w0 w0 false) ∧ r.ok ∧ r.val = (((sg a).toNat * 2 ^ k % paV a b : Nat) : Int) ∧ c = decide ((sg a).toNat * 2 ^ k / paV a b % 2 = 1) ∧ ((k + l = paK a b ∧ 0 ≤ l) ∨ (k = paK a b ∧ l ≤ 0)) ∧ -192 ≤ l ∧ l ≤ 4000 ∧ n = l.toNat
def paOut (a b : Int) (x : Lf) : Prop := ∃ (l : Int) (g : Nat → Value), x.1 = fPa a b (wlE a b) (paO a b) l ++ tl 55 g ∧ x.2.1 = hPa a b (paBy a b) (ofN (rsM a b)) (pzL false 0 w0 w0 false)
theorem odd_int {x y : W4} {X Y : Nat} (hx : x.val = (X : Int)) (hy : y.val = (Y : Int)) : decide (x.val / y.val % 2 = 1) = decide (X / Y % 2 = 1) := by
  rw [hx, hy, ← Int.natCast_ediv]
  exact decide_eq_decide.2 (by omega)
theorem pa_loop {a b : Int} (hb : sg b ≠ 0) (n : Nat) (x : Lf) (h : paInv a b n x) : Runs (tabOf Try.prog extY conW1 true) (pLoop Try.f18) x fun e y => match e with | none => ∃ n', n' < n ∧ paInv a b n' y | some none => False | some (some id') => id' = 0 ∧ paOut a b y := by
  obtain ⟨k, l, c, r, g, e1, e2, hr, hv, hc, hk, hl1, hl2, hn⟩ := h
  obtain ⟨t, hh, s⟩ := x
  have e1 : t = _ := e1
  have e2 : hh = _ := e2
  subst e1 e2
  obtain ⟨oy, vy⟩ := paBy_num a b
  have pv := (paV_bd a b).2 hb
  have sb := sg_lt b
  by_cases h0 : l > 0
  · obtain ⟨_, v2, _⟩ := pa_small (a := a) (b := b) (by omega)
    obtain ⟨s, hs⟩ : ∃ s : Nat, s = min l.toNat 192 := ⟨_, rfl⟩
    have em : mn l 192 = (s : Int) := by unfold mn; split <;> omega
    have hp : 2 ^ s ≤ 2 ^ 192 := Nat.pow_le_pow_right (by omega) (by omega)
    have hlt := Nat.mod_lt ((sg a).toNat * 2 ^ k) pv
    have hb2 : (sg a).toNat * 2 ^ k % paV a b * 2 ^ s < 2 ^ 256 := by
      have := Nat.mul_le_mul (show (sg a).toNat * 2 ^ k % paV a b ≤ 9007199254740991 by omega) hp
      exact Nat.lt_of_le_of_lt this (by decide)
    obtain ⟨os, vs⟩ := shl_nat hr hv (s := s) (by omega) hb2
    have od := odd_int vs vy
    have ks : lk r (s : Int) = (decide (r.ok ∧ -9223372036854775808 ≤ (s : Int) ∧ (s : Int) ≤ 9223372036854775807), true) := rfl
    obtain ⟨d, hd⟩ : ∃ d, d = decide ((sg a).toNat * 2 ^ k % paV a b * 2 ^ s / paV a b % 2 = 1) := ⟨_, rfl⟩
    have G := pa_rd a b (wlE a b) l c d (paBy a b) r (pzL false 0 w0 w0 false) g
    rw [em] at G
    refine (goesT_runs (tabY_ok conW1_ok) G (okCons (od.trans hd.symm) (okCons (decide_eq_true ⟨os, oy, by rw [vy]; omega⟩) (okCons (decide_eq_true ⟨hr, by omega, by omega⟩) (okL1 (decide_eq_true h0)))))).mono fun e z he => ?_
    obtain ⟨rfl, ⟨g', z1⟩, z2⟩ := he
    have ew : IntKind.i64.wrap (l - 192) = l - 192 := wrapI' ⟨by omega, by omega⟩
    rw [ew] at z1
    have hvv : (rdW r (paBy a b) l).val = (((sg a).toNat * 2 ^ (k + s) % paV a b : Nat) : Int) := by
      unfold rdW
      have hm := Nat.mod_lt ((sg a).toNat * 2 ^ k % paV a b * 2 ^ s) pv
      have bd := (paV_bd a b).1
      have h117 : (2 : Nat) ^ 117 = 166153499473114484112975882535043072 := rfl
      rw [em, vs, vy, ← Int.natCast_emod, W4.val_of, Int.emod_eq_of_lt (by omega) (by omega), piece_mod]
    refine ⟨(l - 192).toNat, by omega, k + s, l - 192, d, rdW r (paBy a b) l, g', z1, z2, W4.ok_of _, hvv, ?_, ?_, by omega, by omega, rfl⟩
    · rw [hd]
      exact decide_eq_decide.2 (piece_odd pv (by omega))
    · rcases hk with ⟨k1, k2⟩ | ⟨k1, k2⟩ <;> omega
  · refine (goesT_runs (tabY_ok conW1_ok) (pa_out a b (wlE a b) l c (paBy a b) r (pzL false 0 w0 w0 false) g) (okL1 (decide_eq_false h0))).mono fun e z he => ?_
    obtain ⟨rfl, ⟨g', z1⟩, z2⟩ := he
    have hk' : k = paK a b := by omega
    obtain ⟨n1, n2⟩ := pa_num (a := a) hb
    rw [hk', n1] at hv
    have hc' : c = paO a b := by
      rw [hc, hk']
      exact decide_eq_decide.2 n2
    rw [hc'] at z1
    rw [of_nat r hr hv] at z2
    exact ⟨rfl, l, g', z1, z2⟩
/-- what part answers -/
def vPg (a b : Int) : Value := .agg (pzL (sgn a) (wlE a b) (ofN (rsM a b)) (ofN (paV a b)) (paO a b)).toArray
def okPg (a b : Int) : Bool := decide (cl a ≤ 2 ∧ cl b ≤ 2 ∧ cl b ≠ 0)
theorem part_calls8 (a b : Int) (ha : U a) (hb : U b) (h : okPg a b = true) (w : World) : Calls Try.prog 18 #[.int .u64 a, .int .u64 b] w fun r w' => r = .returned (vPg a b) ∧ Tidy w w' := by
  obtain ⟨ca, cb, cz⟩ := of_decide_eq_true h
  have ka : decide (U a) = true := decide_eq_true ha
  have kb : decide (U b) = true := decide_eq_true hb
  have nz : sg b ≠ 0 := fun h0 => cz ((sg_zero cb).1 h0)
  have sa := sg_lt a
  have sb := sg_lt b
  obtain ⟨oy, vy⟩ := paBy_num a b
  have pv := (paV_bd a b).2 nz
  obtain ⟨h0, h1, h2, h3, _⟩ := wlE_bd a b
  have xa := xp_bd a
  have ev : (wSg a).val = (((sg a).toNat : Nat) : Int) := by rw [wSg_val]; omega
  have od := odd_int ev vy
  obtain ⟨d, hd⟩ : ∃ d, d = decide ((sg a).toNat / paV a b % 2 = 1) := ⟨_, rfl⟩
  have ew : IntKind.i64.wrap (xp a - paE a b) = paK a b := by
    rw [paE_eq, wrapI' ⟨by omega, by omega⟩]
    unfold paK
    omega
  have bs := (paV_bd a b).1
  have h117 : (2 : Nat) ^ 117 = 166153499473114484112975882535043072 := rfl
  have eS := paS_eq a b
  have hm := Nat.min_le_right (xp b - wlE a b).toNat 64
  have hl := Nat.mod_lt (sg a).toNat pv
  have r0 : (W4.of ((wSg a).val % (paBy a b).val)).val = (((sg a).toNat * 2 ^ 0 % paV a b : Nat) : Int) := by
    rw [ev, vy, ← Int.natCast_emod, W4.val_of, Int.emod_eq_of_lt (by omega) (by omega)]
    simp
  have hT := tabY_ok conW1_ok
  refine calls_of_runs (T := tabOf Try.prog extY conW1 true) Try.func18 pa_body (by rfl) (by rfl) ?_ w
  refine goesT_list hT (pa_pre a b d) (okCons (od.trans hd.symm) (okCons (decide_eq_true ⟨wSg_ok a, oy, by rw [vy]; omega⟩) (okCons (decide_eq_true ⟨wSg_ok b, by omega, by omega⟩) (okCons kb (okCons (decide_eq_true cb) (okCons kb (okCons ka (okCons (decide_eq_true ca) (okL1 ka))))))))) fun g => ?_
  refine Runs.seq (P1 := fun e y => e = none ∧ paOut a b y) ?_ ?_ (fun e y he => by cases he.1)
  · refine Runs.seq (goesT_runs hT (pa_r6 a b (paE a b) d (paBy a b) _ _ g) okNil) ?_ (fun e y he => by cases he.1)
    intro y he
    obtain ⟨_, ⟨g', e1⟩, e2⟩ := he
    rw [ew, paE_eq] at e1
    refine (Runs.forLoop (R := fun _ => False) (P := paOut a b) (paInv a b) (pa_loop nz) (n := (paK a b : Int).toNat) ⟨0, paK a b, d, _, g', e1, e2, W4.ok_of _, r0, ?_, .inl ⟨by simp, by omega⟩, by omega, by unfold paK; omega, rfl⟩).mono fun e z hz => ?_
    · rw [hd]; simp
    · match e, hz with
      | none, hz => exact ⟨rfl, hz⟩
  · intro y he
    obtain ⟨_, l, g', e1, e2⟩ := he
    obtain ⟨t, hh, s⟩ := y
    have e1 : t = _ := e1
    have e2 : hh = _ := e2
    subst e1 e2
    have ey := of_nat _ oy vy
    refine (goesT_runs hT (pa_end a b (wlE a b) l (paO a b) (paBy a b) (ofN (rsM a b)) g') okNil).mono fun e z hz => ?_
    obtain ⟨rfl, ⟨g2, z1⟩, z2⟩ := hz
    rw [ey] at z2
    exact ⟨.inr rfl, by rw [z1, z2]; rfl⟩
/-- whether the quotient is odd is told ahead -/
def gPg : Ans := fun vals s =>
  match vals, s with
  | [.int .u64 a, .int .u64 b], .inr (.inr (.inr (.inl d))) :: s' => some (.agg (pzL (sgn a) (wlE a b) (ofN (rsM a b)) (ofN (paV a b)) d).toArray, s', [(paO a b, d), (okPg a b, true), (decide (U a ∧ U b), true)])
  | _, _ => none
theorem gPg_ok : AnsOk 18 gPg := by
  intro vals s v s' lg h hl w
  unfold gPg at h
  split at h
  · cases h
    have e := hl _ (List.mem_cons_self)
    have e2 := hl _ (List.mem_cons_of_mem _ List.mem_cons_self)
    obtain ⟨h1, h2⟩ := of_decide_eq_true (hl _ (List.mem_cons_of_mem _ (List.mem_cons_of_mem _ (List.mem_singleton.2 rfl))))
    simp only at e
    rw [← e]
    exact part_calls8 _ _ h1 h2 e2 w
  · cases h
def conW2 : Con := alt 18 gPg (alt 41 (g2 cmpN) (alt 33 gWh conW1))
theorem conW2_ok : ConOk conW2 := alt_ok Try.func18 rfl gPg_ok (alt_ok Try.func41 rfl cmpN_ok (alt_ok Try.func33 rfl gWh_ok conW1_ok))
end Go.Proofs.Ytbcpnpchioncbaa
