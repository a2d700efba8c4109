/-
  The law's own 'sure' (stage 8); what the laws of rests and whole numbers call.
-/
import Derived.Test.YtbcpnpchioncbaaG36
namespace Go.Proofs.Ytbcpnpchioncbaa
open Go.KRun Go.Wd Go.Pt Go.Rn
set_option maxRecDepth 100000

theorem sure8_n : reP 4617315517961601024 4613937818241073152 = 13830554455654793216 ∧ moF 4617315517961601024 4613937818241073152 = 0 ∧ moP 4617315517961601024 4613937818241073152 = 4611686018427387904 ∧ woP 0 4612811918334230528 = 4611686018427387904 ∧ woF 4612811918334230528 true = 16 := ⟨by kernel_rfl, by kernel_rfl, by kernel_rfl, by kernel_rfl, by kernel_rfl⟩
theorem sure8 : Fits (reckon (tabOf Try.prog extY conW3 true) 300 11 [] [cmp true, cmp true, cmp true, cmp true, cmp true, cmp true]) (.bool true) [(woF 4612811918334230528 true == 16, true), (woP 0 4612811918334230528 == 4611686018427387904, true), (moF 4617315517961601024 4613937818241073152 == 0, true), (moP 4617315517961601024 4613937818241073152 == 4611686018427387904, true), (moF 4617315517961601024 4613937818241073152 == 0, true), (reP 4617315517961601024 4613937818241073152 == 13830554455654793216, true), (decide (U 4612811918334230528), true), (true, true), (decide (U 4617315517961601024 ∧ U 4613937818241073152), true), (true, true), (decide (U 4617315517961601024 ∧ U 4613937818241073152), true)] := ⟨by kernel_rfl, by kernel_rfl, by kernel_rfl, by kernel_rfl⟩
def gSure8 : Ans := fun vals s => match vals with | [] => some (.bool true, s, []) | _ => none
theorem gSure8_ok : AnsOk 11 gSure8 := by
  intro vals s v s' lg h hl w
  unfold gSure8 at h
  split at h
  · cases h
    obtain ⟨n1, n2, n3, n4, n5⟩ := sure8_n
    exact fits_calls (tabY_ok conW3_ok) sure8 (okCons (beq_t n5) (okCons (beq_t n4) (okCons (beq_t n2) (okCons (beq_t n3) (okCons (beq_t n2) (okCons (beq_t n1) (okCons (by decide) (okCons rfl (okCons (by decide) (okCons rfl (okL1 (by decide))))))))))) ) (by rfl) (by rfl) w
  · cases h
def conS8 : Con := alt 11 gSure8 conW3
theorem conS8_ok : ConOk conS8 := alt_ok Try.func11 rfl gSure8_ok conW3_ok
end Go.Proofs.Ytbcpnpchioncbaa

/-
  Rests and whole numbers, in plain terms.
-/
namespace Go.Proofs.Ytbcpnpchioncbaa
open Go.KRun Go.Wd Go.Pt Go.Rn
set_option maxRecDepth 100000

def conL8 : Con := alt 20 (gU vT) conS8
theorem conL8_ok : ConOk conL8 := alt_ok Try.func20 rfl ref_ok conS8_ok
theorem ng_same {p : Int} (hp : U p) : cl (ng p) = cl p ∧ sg (ng p) = sg p ∧ xp (ng p) = xp p := by
  obtain ⟨_, _, h3, h4, _⟩ := ng_parts hp
  unfold cl sg xp
  rw [h3, h4]
  exact ⟨rfl, rfl, rfl⟩
theorem wl_same {a a' b b' : Int} (h1 : sg a' = sg a) (h2 : xp a' = xp a) (h3 : sg b' = sg b) (h4 : xp b' = xp b) : wlE a' b' = wlE a b ∧ rsM a' b' = rsM a b ∧ rsB a' b' = rsB a b ∧ rsR a' b' = rsR a b := by
  have e0 : wlE a' b' = wlE a b := by unfold wlE; rw [h2, h4]
  have eU : wlU a' b' = wlU a b := by unfold wlU; rw [e0, h1, h2]
  have eV : wlV a' b' = wlV a b := by unfold wlV; rw [e0, h3, h4]
  have eM : rsM a' b' = rsM a b := by unfold rsM; rw [eU, eV]
  have eB : rsB a' b' = rsB a b := by unfold rsB; rw [eU, eV, eM]
  exact ⟨e0, eM, eB, by unfold rsR; rw [eB, eV, eM]⟩
theorem rest_fin {a b : Int} (ha : cl a ≤ 2) (hb : cl b ≤ 2) (hz : cl b ≠ 0) : moP a b = sS (sgn a) (mdP a b) ∧ reP a b = sS (sgn a != rsB a b) (rmP a b) ∧ moF a b = 0 := by
  have h1 : ¬ (3 < cl a ∨ 3 < cl b) := by omega
  have h2 : ¬ (cl a = 3 ∨ cl b = 0) := by omega
  have h3 : ¬ cl b = 3 := by omega
  unfold moP reP moF
  rw [if_neg h1, if_neg h2, if_neg h3, if_neg h1, if_neg h2, if_neg h3, if_neg h1, if_neg h2]
  exact ⟨rfl, rfl, rfl⟩
theorem fin_mag {p : Int} (h : cl p ≤ 2) : mag p < 9218868437227405312 := (mag_cl p).2.2.1 h
theorem mo_sign {a b : Int} (ha : U a) (hb : U b) : moF a (ng b) = moF a b ∧ moF (ng a) b = moF a b := by
  unfold moF
  rw [(ng_same ha).1, (ng_same hb).1]
  exact ⟨rfl, rfl⟩
def nan8 : Int := 9221120237041090560
theorem re_U {a b : Int} (ha : U a) : U (reP a b) ∧ U (moP a b) := by
  by_cases h : cl a ≤ 2 ∧ cl b ≤ 2 ∧ cl b ≠ 0
  · obtain ⟨e1, e2, _⟩ := rest_fin h.1 h.2.1 h.2.2
    have nz : sg b ≠ 0 := fun h0 => h.2.2 ((sg_zero h.2.1).1 h0)
    have fb := fin_ex h.2.1
    obtain ⟨_, _, r0, r1, _⟩ := rm_num (a := a) nz fb 0 false
    obtain ⟨_, _, m0, m1, _⟩ := md_num (a := a) nz fb 0 false
    have mb := mag_lt (p := b)
    rw [e1, e2]
    exact ⟨(sS_mag r0 (by omega)).2.2.1, (sS_mag m0 (by omega)).2.2.1⟩
  · have c := cl_bd b
    have nb : U 9221120237041090560 := by decide
    unfold reP moP
    constructor
    · split
      · exact nb
      · split
        · exact nb
        · rw [if_pos (by omega)]; exact ha
    · split
      · exact nb
      · split
        · exact nb
        · rw [if_pos (by omega)]; exact ha
theorem rest_signs {a b : Int} (ha : U a) (hb : U b) :
    (reP a b = nan8 ∧ reP a (ng b) = reP a b ∧ reP (ng a) b = reP a b ∧ moP a b = reP a b ∧ moP a (ng b) = reP a b ∧ moP (ng a) b = reP a b) ∨
    (reP a b ≠ nan8 ∧ reP a (ng b) = reP a b ∧ reP (ng a) b = ng (reP a b) ∧ moP a (ng b) = moP a b ∧ moP (ng a) b = ng (moP a b)) := by
  obtain ⟨na1, na2, na3⟩ := ng_same ha
  obtain ⟨nb1, nb2, nb3⟩ := ng_same hb
  obtain ⟨_, sa, _⟩ := ng_parts ha
  by_cases h1 : (3 < cl a ∨ 3 < cl b) ∨ (cl a = 3 ∨ cl b = 0)
  · left
    have key : ∀ a' b', cl a' = cl a → cl b' = cl b → reP a' b' = nan8 ∧ moP a' b' = nan8 := fun a' b' e1 e2 => by
      unfold reP moP
      rw [e1, e2]
      by_cases h : 3 < cl a ∨ 3 < cl b
      · rw [if_pos h, if_pos h]; exact ⟨rfl, rfl⟩
      · rw [if_neg h, if_neg h]
        rcases h1 with h1 | h1
        · exact absurd h1 h
        · rw [if_pos h1, if_pos h1]; exact ⟨rfl, rfl⟩
    obtain ⟨k1, k2⟩ := key a b rfl rfl
    obtain ⟨k3, k4⟩ := key a (ng b) rfl nb1
    obtain ⟨k5, k6⟩ := key (ng a) b na1 rfl
    rw [k1, k2, k3, k4, k5, k6]
    exact ⟨rfl, rfl, rfl, rfl, rfl, rfl⟩
  · right
    have n1 : ¬ (3 < cl a ∨ 3 < cl b) := fun h => h1 (.inl h)
    have n2 : ¬ (cl a = 3 ∨ cl b = 0) := fun h => h1 (.inr h)
    by_cases b3 : cl b = 3
    · have key : ∀ a' b', cl a' = cl a → cl b' = cl b → reP a' b' = a' ∧ moP a' b' = a' := fun a' b' e1 e2 => by
        unfold reP moP
        rw [e1, e2, if_neg n1, if_neg n2, if_pos b3, if_neg n1, if_neg n2, if_pos b3]
        exact ⟨rfl, rfl⟩
      obtain ⟨k1, k2⟩ := key a b rfl rfl
      obtain ⟨k3, k4⟩ := key a (ng b) rfl nb1
      obtain ⟨k5, k6⟩ := key (ng a) b na1 rfl
      rw [k1, k2, k3, k4, k5, k6]
      refine ⟨fun h => ?_, rfl, rfl, rfl, rfl⟩
      have := fin_mag (p := a) (by omega)
      rw [h] at this
      exact absurd this (by decide)
    · have c2 : cl a ≤ 2 := by omega
      have d2 : cl b ≤ 2 := by omega
      have dz : cl b ≠ 0 := by omega
      have nz : sg b ≠ 0 := fun h0 => dz ((sg_zero d2).1 h0)
      have fb := fin_ex d2
      have mb := fin_mag d2
      obtain ⟨e1, e2, _⟩ := rest_fin c2 d2 dz
      obtain ⟨f1, f2, _⟩ := rest_fin (a := a) (b := ng b) c2 (by omega) (by omega)
      obtain ⟨g1, g2, _⟩ := rest_fin (a := ng a) (b := b) (by omega) d2 dz
      obtain ⟨w1, w2, w3, w4⟩ := wl_same (a := a) (a' := a) (b := b) (b' := ng b) rfl rfl nb2 nb3
      obtain ⟨v1, v2, v3, v4⟩ := wl_same (a := a) (a' := ng a) (b := b) (b' := b) na2 na3 rfl rfl
      have rm := fun n => rm_num (a := a) nz fb 0 n
      have md := fun n => md_num (a := a) nz fb 0 n
      have p1 : rmP a (ng b) = rmP a b := by unfold rmP; rw [w1, w3, w4]
      have p2 : mdP a (ng b) = mdP a b := by unfold mdP; rw [w1, w2]
      have p3 : rmP (ng a) b = rmP a b := by
        rw [← (rm (sgn (ng a) != rsB a b)).2.1]
        unfold rmP
        rw [v1, v3, v4]
      have p4 : mdP (ng a) b = mdP a b := by
        rw [← (md (sgn (ng a))).2.1]
        unfold mdP
        rw [v1, v2]
      obtain ⟨_, _, r0, r1, _⟩ := rm false
      obtain ⟨_, _, m0, m1, _⟩ := md false
      rw [e1, e2, f1, f2, g1, g2, p1, p2, p3, p4, w3, v3, sa, ng_sS r0 (by omega), ng_sS m0 (by omega)]
      refine ⟨fun h => ?_, rfl, ?_, rfl, rfl⟩
      · have hm := (sS_mag (n := sgn a != rsB a b) r0 (by omega)).1
        rw [h] at hm
        have : mag nan8 = 9221120237041090560 := by decide
        omega
      · cases sgn a <;> cases rsB a b <;> rfl
/-! ### rounded to a whole number -/
theorem wh_fin (m : Int) {a : Int} (ha : cl a ≤ 2) : woP m a = sS (sgn a) (whP m a) ∧ 0 ≤ whP m a ∧ whP m a < 9218868437227405312 ∧ woF a false = 0 := by
  have h1 : ¬ 3 < cl a := by omega
  have h2 : ¬ cl a = 3 := by omega
  have hm := fin_mag ha
  have ml := mag_lt (p := a)
  obtain ⟨j, hj⟩ : ∃ j : Nat, (j : Int) = 1074 := ⟨1074, rfl⟩
  unfold woP woF
  rw [if_neg h1, if_neg h2, if_neg h1, if_neg h2, if_neg (by simp)]
  by_cases h0 : 0 ≤ xp a
  · have e : whP m a = mag a := by unfold whP; rw [if_pos h0]
    rw [e]
    exact ⟨rfl, by omega, by omega, rfl⟩
  · obtain ⟨_, q1, q2⟩ := wh_num (m := m) (a := a) hj (by omega)
    exact ⟨rfl, q1, by omega, rfl⟩
/-- its number is a whole one -/
theorem wh_whole (m : Int) {a : Int} {j : Nat} (hj : (j : Int) = 1074) : ∃ W, uV (whP m a) = W * 2 ^ j := by
  by_cases h0 : 0 ≤ xp a
  · have e : whP m a = mag a := by unfold whP; rw [if_pos h0]
    refine ⟨(sg a).toNat * 2 ^ (xp a).toNat, ?_⟩
    rw [e, uV_mag]
    unfold uV szF
    rw [Nat.mul_assoc, ← Nat.pow_add]
    congr 2
    omega
  · exact ⟨_, (wh_num (m := m) (a := a) hj (by omega)).1⟩
theorem wh_again (m : Int) {a : Int} (ha : cl a ≤ 2) : U (woP m a) ∧ woP m (woP m a) = woP m a ∧ woF (woP m a) true = 0 ∧ sgn (woP m a) = sgn a ∧ mag (woP m a) = whP m a := by
  obtain ⟨e, p0, p1, _⟩ := wh_fin m ha
  obtain ⟨s1, s2, s3, s4⟩ := sS_mag (n := sgn a) p0 (by omega)
  obtain ⟨j, hj⟩ : ∃ j : Nat, (j : Int) = 1074 := ⟨1074, rfl⟩
  obtain ⟨W, hW⟩ := wh_whole m (a := a) hj
  have c2 : cl (woP m a) ≤ 2 := by rw [e]; exact (mag_cl _).2.2.2 (by rw [s1]; exact p1)
  have fp := fin_ex c2
  obtain ⟨t1, t2⟩ := wh_stays (m := m) (p := woP m a) hj fp (by rw [e, s4]; exact hW)
  obtain ⟨e', _, _, _⟩ := wh_fin m c2
  have eU : U (woP m a) := by rw [e]; exact s3
  have eL : Go.Rn.whL (woP m a) = false := by
    by_cases h0 : 0 ≤ xp (woP m a)
    · unfold Go.Rn.whL toL; rw [if_pos h0]
    · exact t2 (by omega)
  refine ⟨eU, ?_, ?_, by rw [e]; exact s2, by rw [e]; exact s1⟩
  · rw [e', t1]; exact sS_own eU
  · unfold woF
    rw [if_neg (by omega), if_neg (by omega), if_neg (by rw [eL]; simp)]
theorem wh_order {a : Int} (m : Int) (ha : cl a ≤ 2) : (whP m a = whP 4 a ∨ whP m a = whP 3 a) ∧ (sgn a = false → whP 4 a ≤ mag a ∧ mag a ≤ whP 3 a) ∧ (sgn a = true → mag a ≤ whP 4 a ∧ whP 3 a ≤ mag a) := by
  by_cases h0 : 0 ≤ xp a
  · have e : ∀ k, whP k a = mag a := fun k => by unfold whP; rw [if_pos h0]
    rw [e, e, e]
    exact ⟨.inl rfl, fun _ => ⟨by omega, by omega⟩, fun _ => ⟨by omega, by omega⟩⟩
  · have hx : xp a < 0 := by omega
    have xb := xp_bd a
    obtain ⟨j, hj⟩ : ∃ j : Nat, (j : Int) = 1074 := ⟨1074, rfl⟩
    have e : ∀ k, whP k a = rnP 0 (sgn a) (Go.Rn.whQ k a) 0 := fun k => by unfold whP; rw [if_neg h0]
    have num : ∀ k, uV (whP k a) = Go.Rn.whQ k a * 2 ^ j ∧ 0 ≤ whP k a ∧ whP k a ≤ 4845873199050653696 := fun k => wh_num hj hx
    have ma := mag_lt (p := a)
    have fa := fin_mag ha
    have ua : uV a = (sg a).toNat * 2 ^ (xp a - -1074).toNat := rfl
    have hpow : 2 ^ j = 2 ^ (0 - xp a).toNat * 2 ^ (xp a - -1074).toNat := by rw [← Nat.pow_add]; congr 1; omega
    have up : ∀ k, (sg a).toNat ≤ Go.Rn.whQ k a * 2 ^ (0 - xp a).toNat → mag a ≤ whP k a := fun k h => by
      refine uV_le (num k).2.1 fa ?_
      rw [uV_mag, (num k).1, hpow, ← Nat.mul_assoc, ua]
      exact Nat.mul_le_mul_right _ h
    have dn : ∀ k, Go.Rn.whQ k a * 2 ^ (0 - xp a).toNat ≤ (sg a).toNat → whP k a ≤ mag a := fun k h => by
      have := (num k).2.2
      refine uV_le ma.1 (by omega) ?_
      rw [uV_mag, (num k).1, hpow, ← Nat.mul_assoc, ua]
      exact Nat.mul_le_mul_right _ h
    rcases wh_sides hx with ⟨_, q, hs⟩ | ⟨_, q, q3, q4, l1, l2⟩
    · refine ⟨.inl (by rw [e, e, q, q]), fun _ => ⟨dn 4 (by rw [q]; omega), up 3 (by rw [q]; omega)⟩, fun _ => ⟨up 4 (by rw [q]; omega), dn 3 (by rw [q]; omega)⟩⟩
    · cases hs : sgn a with
      | true =>
        rw [hs] at q3 q4
        simp only [if_true, Nat.add_zero] at q3 q4
        refine ⟨?_, fun h => (by cases h), fun _ => ⟨up 4 (by rw [q4]; omega), dn 3 (by rw [q3]; omega)⟩⟩
        rcases q m with h | h
        · right; rw [e, e, h, q3]
        · left; rw [e, e, h, q4]
      | false =>
        rw [hs] at q3 q4
        simp only [Bool.false_eq_true, if_false, Nat.add_zero] at q3 q4
        refine ⟨?_, fun _ => ⟨dn 4 (by rw [q4]; omega), up 3 (by rw [q3]; omega)⟩, fun h => by cases h⟩
        rcases q m with h | h
        · left; rw [e, e, h, q4]
        · right; rw [e, e, h, q3]
end Go.Proofs.Ytbcpnpchioncbaa
