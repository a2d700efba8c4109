/-
  rnd.cut, rnd.next and rnd.toMultiple, as calls in every world.
-/
import Derived.Test.YtgmfnecdpfdncaaRnA
namespace Go.Proofs.Ytgmfnecdpfdncaa
open Go.KRun Go.Wd Go.Pt Go.Rn
set_option maxRecDepth 100000

def cutT (x : W4) (b : Bool) (d : Nat) : Value := .tuple #[vW (ofN (tw x b / 2 ^ (d + 1))), .int .i64 (restC (tw x b % 2 ^ (d + 1)) (2 ^ (d + 1)))]
theorem lok_ok {x : W4} {n : Int} (h : x.ok) (h0 : -9223372036854775808 ≤ n) (h1 : n ≤ 9223372036854775807) : decide (x.ok ∧ -9223372036854775808 ≤ n ∧ n ≤ 9223372036854775807) = true := decide_eq_true ⟨h, h0, h1⟩
theorem cut_calls (n b : Bool) (x : W4) (ex e : Int) (hx : x.ok) (h1 : -4000 ≤ ex) (h2 : ex ≤ e) (h3 : e ≤ 4000) (w : World) : Calls Try.prog 67 #[vN n ex x b, .int .i64 e] w fun r w' => r = .returned (cutT x b (e - ex).toNat) ∧ Tidy w w' := by
  obtain ⟨d, hd⟩ : ∃ d : Nat, e - ex = (d : Int) := ⟨(e - ex).toNat, by omega⟩
  have e1 : dnI ex e = (d : Int) := by unfold dnI; rw [wrapI' ⟨by omega, by omega⟩, hd]
  have e2 : dn1 ex e = (d : Int) - 1 := by
    unfold dn1
    rw [wrapI' (n := e - ex) ⟨by omega, by omega⟩, hd, wrapI' ⟨by omega, by omega⟩]
  have eV : ∀ c, c = restC (tw x b % 2 ^ (d + 1)) (2 ^ (d + 1)) → ctV x ex e c = cutT x b (e - ex).toNat := fun c hc => by
    unfold ctV cutT
    rw [e1, shrW_nat hx (by omega), hd, Int.toNat_natCast, tw_div, hc]
  have k1 : decide (x.ok ∧ -9223372036854775808 ≤ dnI ex e ∧ dnI ex e ≤ 9223372036854775807) = true := lok_ok hx (by omega) (by omega)
  have k2 : decide (x.ok ∧ -9223372036854775808 ≤ dn1 ex e ∧ dn1 ex e ≤ 9223372036854775807) = true := lok_ok hx (by omega) (by omega)
  have kl : shrL x (dnI ex e) = decide (x.nat % 2 ^ d ≠ 0) := by rw [e1, shrL_nat hx (by omega), Int.toNat_natCast]
  have hv : ([vN n ex x b, .int .i64 e].all (lt 0)) = true := rfl
  by_cases hl : x.nat % 2 ^ d = 0
  · have kf : shrL x (dnI ex e) = false := by rw [kl]; simp [hl]
    cases b
    · rw [← eV 0 (by rw [rc_none hl])]
      exact fits_calls (tabY_ok conH_ok) (ct0 n x ex e) (okCons k1 (okL1 kf)) hv (by rfl) w
    · cases d with
      | zero =>
        rw [← eV 2 (by rw [rc_zero])]
        exact fits_calls (tabY_ok conH_ok) (ct1 n x ex e) (okCons (by rw [e1]; rfl) (okCons k1 (okL1 kf))) hv (by rfl) w
      | succ j =>
        have k0 : (dnI ex e == 0) = false := by rw [e1]; simp; omega
        have e3 : dn1 ex e = (j : Int) := by rw [e2]; omega
        have kb : bitI x (dn1 ex e) = ((x.nat / 2 ^ j % 2 : Nat) : Int) := by rw [e3, bitI_nat hx (by omega), Int.toNat_natCast]
        by_cases hb : x.nat / 2 ^ j % 2 = 0
        · rw [← eV 1 (by rw [rc_below hb (.inr rfl)])]
          exact fits_calls (tabY_ok conH_ok) (ct2 n x ex e true) (okCons (by rw [kb, hb]; rfl) (okCons k2 (okCons k0 (okCons k1 (okL1 kf))))) hv (by rfl) w
        · have hb' : x.nat / 2 ^ j % 2 = 1 := by omega
          rw [← eV 3 (by rw [rc_above hb' (.inr rfl)])]
          exact fits_calls (tabY_ok conH_ok) (ct2 n x ex e false) (okCons (by rw [kb, hb']; rfl) (okCons k2 (okCons k0 (okCons k1 (okL1 kf))))) hv (by rfl) w
  · have kf : shrL x (dnI ex e) = true := by rw [kl]; simp [hl]
    cases d with
    | zero => exact absurd (by simp [Nat.mod_one]) hl
    | succ j =>
      have k0 : (dnI ex e == 0) = false := by rw [e1]; simp; omega
      have e3 : dn1 ex e = (j : Int) := by rw [e2]; omega
      have kb : bitI x (dn1 ex e) = ((x.nat / 2 ^ j % 2 : Nat) : Int) := by rw [e3, bitI_nat hx (by omega), Int.toNat_natCast]
      by_cases hb : x.nat / 2 ^ j % 2 = 0
      · rw [← eV 1 (by rw [rc_below hb (.inl hl)])]
        exact fits_calls (tabY_ok conH_ok) (ct4 n b x ex e) (okCons (by rw [kb, hb]; rfl) (okCons k2 (okCons k0 (okCons k1 (okL1 kf))))) hv (by rfl) w
      · have hb' : x.nat / 2 ^ j % 2 = 1 := by omega
        cases b
        · have hs : shrW x (dnI ex e) = ofN (x.nat / 2 ^ (j + 1)) := by rw [e1, shrW_nat hx (by omega), Int.toNat_natCast]
          have hlt := W4.nat_lt hx
          have hle : x.nat / 2 ^ (j + 1) ≤ x.nat := Nat.div_le_self _ _
          have hle2 : 2 * (x.nat / 2 ^ (j + 1)) ≤ x.nat := by
            have := Nat.div_mul_le_self x.nat (2 ^ (j + 1))
            have hp : 0 < 2 ^ j := Nat.pow_pos (by omega)
            have h9 : 2 * (x.nat / 2 ^ (j + 1)) ≤ x.nat / 2 ^ (j + 1) * 2 ^ (j + 1) := by
              rw [Nat.mul_comm 2, Nat.pow_succ]
              exact Nat.mul_le_mul_left _ (by omega)
            omega
          have ht : tw (shrW x (dnI ex e)) true = 2 * (x.nat / 2 ^ (j + 1)) + 1 := by
            unfold tw
            rw [hs, ofN_nat (by omega)]
          have hk : bkW x ex e = ofN ((2 * (x.nat / 2 ^ (j + 1)) + 1) * 2 ^ j) := by
            unfold bkW
            have e256 : (2 : Nat) ^ 256 = 115792089237316195423570985008687907853269984665640564039457584007913129639936 := rfl
            rw [ht, e3, shlW_nat (ofN_ok _) (by omega), Int.toNat_natCast, ofN_nat (by omega)]
          have kq : eqW x (bkW x ex e) = decide (x.nat % 2 ^ j = 0) := by rw [hk, back_iff hx hb']
          have kok : decide ((ofN (tw (shrW x (dnI ex e)) true)).ok ∧ -9223372036854775808 ≤ dn1 ex e ∧ dn1 ex e ≤ 9223372036854775807) = true := lok_ok (ofN_ok _) (by omega) (by omega)
          have ks : decide (shrW x (dnI ex e)).ok = true := by rw [hs]; exact decide_eq_true (ofN_ok _)
          by_cases hz : x.nat % 2 ^ j = 0
          · rw [← eV 2 (by rw [rc_half hb' hz])]
            exact fits_calls (tabY_ok conH_ok) (ct6 n x ex e false) (okCons (by rw [kq, decide_eq_true hz]; rfl) (okCons kok (okCons ks (okCons (by rw [kb, hb']; rfl) (okCons k2 (okCons k0 (okCons k1 (okL1 kf)))))))) hv (by rfl) w
          · rw [← eV 3 (by rw [rc_above hb' (.inl hz)])]
            exact fits_calls (tabY_ok conH_ok) (ct6 n x ex e true) (okCons (by rw [kq, decide_eq_false hz]; rfl) (okCons kok (okCons ks (okCons (by rw [kb, hb']; rfl) (okCons k2 (okCons k0 (okCons k1 (okL1 kf)))))))) hv (by rfl) w
        · rw [← eV 3 (by rw [rc_above hb' (.inr rfl)])]
          exact fits_calls (tabY_ok conH_ok) (ct5 n x ex e) (okCons (by rw [kb, hb']; rfl) (okCons k2 (okCons k0 (okCons k1 (okL1 kf))))) hv (by rfl) w
/-- what cut asks of its numbers -/
def okCut (x : W4) (ex e : Int) : Bool := decide (x.ok ∧ -4000 ≤ ex ∧ ex ≤ e ∧ e ≤ 4000)
def gCut : Ans := fun vals s =>
  match vals with
  | [v, .int .i64 e] =>
    match n7 v with
    | some (_, ex, x, b) => some (cutT x b (e - ex).toNat, s, [(okCut x ex e, true)])
    | none => none
  | _ => none
theorem gCut_ok : AnsOk 67 gCut := by
  intro vals s v s' lg h hl w
  unfold gCut at h
  split at h
  · split at h
    · rename_i n ex x b hn
      cases h
      have h1 := of_decide_eq_true (hl _ (List.mem_singleton.2 rfl))
      rw [n7_spec hn]
      exact cut_calls n b x ex _ h1.1 h1.2.1 h1.2.2.1 h1.2.2.2 w
    · cases h
  · cases h
def conC : Con := alt 68 gUp (alt 67 gCut conH)
theorem conC_ok : ConOk conC := alt_ok Try.func68 rfl gUp_ok (alt_ok Try.func67 rfl gCut_ok conH_ok)
end Go.Proofs.Ytgmfnecdpfdncaa
