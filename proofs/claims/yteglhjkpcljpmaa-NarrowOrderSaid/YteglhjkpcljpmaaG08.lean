/-
  rnd.cut, rnd.next and rnd.toMultiple, as calls in every world.
-/
import Derived.Test.YteglhjkpcljpmaaG07
namespace Go.Proofs.Yteglhjkpcljpmaa
open Go.KRun Go.Wd Go.Pt Go.Rn
set_option maxRecDepth 100000

def cutT (x : W4) (b : Bool) (d : Nat) : Value := .tuple #[vW (ofN (tw x b / 2 ^ (d + 1))), .int .i64 (restC (tw x b % 2 ^ (d + 1)) (2 ^ (d + 1)))]
theorem lok_ok {x : W4} {n : Int} (h : x.ok) (h0 : -9223372036854775808 ≤ n) (h1 : n ≤ 9223372036854775807) : decide (x.ok ∧ -9223372036854775808 ≤ n ∧ n ≤ 9223372036854775807) = true := decide_eq_true ⟨h, h0, h1⟩
theorem cut_calls (n b : Bool) (x : W4) (ex e : Int) (hx : x.ok) (h1 : -4000 ≤ ex) (h2 : ex ≤ e) (h3 : e ≤ 4000) (w : World) : Calls Try.prog 66 #[vN n ex x b, .int .i64 e] w fun r w' => r = .returned (cutT x b (e - ex).toNat) ∧ Tidy w w' := by
  obtain ⟨d, hd⟩ : ∃ d : Nat, e - ex = (d : Int) := ⟨(e - ex).toNat, by omega⟩
  have e1 : dnI ex e = (d : Int) := by unfold dnI; rw [wrapI' ⟨by omega, by omega⟩, hd]
  have e2 : dn1 ex e = (d : Int) - 1 := by
    unfold dn1
    rw [wrapI' (n := e - ex) ⟨by omega, by omega⟩, hd, wrapI' ⟨by omega, by omega⟩]
  have eV : ∀ c, c = restC (tw x b % 2 ^ (d + 1)) (2 ^ (d + 1)) → ctV x ex e c = cutT x b (e - ex).toNat := fun c hc => by
    unfold ctV cutT
    rw [e1, shrW_nat hx (by omega), hd, Int.toNat_natCast, tw_div, hc]
  have k1 : decide (x.ok ∧ -9223372036854775808 ≤ dnI ex e ∧ dnI ex e ≤ 9223372036854775807) = true := lok_ok hx (by omega) (by omega)
  have k2 : decide (x.ok ∧ -9223372036854775808 ≤ dn1 ex e ∧ dn1 ex e ≤ 9223372036854775807) = true := lok_ok hx (by omega) (by omega)
  have kl : shrL x (dnI ex e) = decide (x.nat % 2 ^ d ≠ 0) := by rw [e1, shrL_nat hx (by omega), Int.toNat_natCast]
  have hv : ([vN n ex x b, .int .i64 e].all (lt 0)) = true := rfl
  by_cases hl : x.nat % 2 ^ d = 0
  · have kf : shrL x (dnI ex e) = false := by rw [kl]; simp [hl]
    cases b
    · rw [← eV 0 (by rw [rc_none hl])]
      exact fits_calls (tabY_ok conH_ok) (ct0 n x ex e) (okCons k1 (okL1 kf)) hv (by rfl) w
    · cases d with
      | zero =>
        rw [← eV 2 (by rw [rc_zero])]
        exact fits_calls (tabY_ok conH_ok) (ct1 n x ex e) (okCons (by rw [e1]; rfl) (okCons k1 (okL1 kf))) hv (by rfl) w
      | succ j =>
        have k0 : (dnI ex e == 0) = false := by rw [e1]; simp; omega
        have e3 : dn1 ex e = (j : Int) := by rw [e2]; omega
        have kb : bitI x (dn1 ex e) = ((x.nat / 2 ^ j % 2 : Nat) : Int) := by rw [e3, bitI_nat hx (by omega), Int.toNat_natCast]
        by_cases hb : x.nat / 2 ^ j % 2 = 0
        · rw [← eV 1 (by rw [rc_below hb (.inr rfl)])]
          exact fits_calls (tabY_ok conH_ok) (ct2 n x ex e true) (okCons (by rw [kb, hb]; rfl) (okCons k2 (okCons k0 (okCons k1 (okL1 kf))))) hv (by rfl) w
        · have hb' : x.nat / 2 ^ j % 2 = 1 := by omega
          rw [← eV 3 (by rw [rc_above hb' (.inr rfl)])]
          exact fits_calls (tabY_ok conH_ok) (ct2 n x ex e false) (okCons (by rw [kb, hb']; rfl) (okCons k2 (okCons k0 (okCons k1 (okL1 kf))))) hv (by rfl) w
  · have kf : shrL x (dnI ex e) = true := by rw [kl]; simp [hl]
    cases d with
    | zero => exact absurd (by simp [Nat.mod_one]) hl
    | succ j =>
      have k0 : (dnI ex e == 0) = false := by rw [e1]; simp; omega
      have e3 : dn1 ex e = (j : Int) := by rw [e2]; omega
      have kb : bitI x (dn1 ex e) = ((x.nat / 2 ^ j % 2 : Nat) : Int) := by rw [e3, bitI_nat hx (by omega), Int.toNat_natCast]
      by_cases hb : x.nat / 2 ^ j % 2 = 0
      · rw [← eV 1 (by rw [rc_below hb (.inl hl)])]
        exact fits_calls (tabY_ok conH_ok) (ct4 n b x ex e) (okCons (by rw [kb, hb]; rfl) (okCons k2 (okCons k0 (okCons k1 (okL1 kf))))) hv (by rfl) w
      · have hb' : x.nat / 2 ^ j % 2 = 1 := by omega
        cases b
        · have hs : shrW x (dnI ex e) = ofN (x.nat / 2 ^ (j + 1)) := by rw [e1, shrW_nat hx (by omega), Int.toNat_natCast]
          have hlt := W4.nat_lt hx
          have hle : x.nat / 2 ^ (j + 1) ≤ x.nat := Nat.div_le_self _ _
          have hle2 : 2 * (x.nat / 2 ^ (j + 1)) ≤ x.nat := by
            have := Nat.div_mul_le_self x.nat (2 ^ (j + 1))
            have hp : 0 < 2 ^ j := Nat.pow_pos (by omega)
            have h9 : 2 * (x.nat / 2 ^ (j + 1)) ≤ x.nat / 2 ^ (j + 1) * 2 ^ (j + 1) := by
              rw [Nat.mul_comm 2, Nat.pow_succ]
              exact Nat.mul_le_mul_left _ (by omega)
            omega
          have ht : tw (shrW x (dnI ex e)) true = 2 * (x.nat / 2 ^ (j + 1)) + 1 := by
            unfold tw
            rw [hs, ofN_nat (by omega)]
          have hk : bkW x ex e = ofN ((2 * (x.nat / 2 ^ (j + 1)) + 1) * 2 ^ j) := by
            unfold bkW
            have e256 : (2 : Nat) ^ 256 = 115792089237316195423570985008687907853269984665640564039457584007913129639936 := rfl
            rw [ht, e3, shlW_nat (ofN_ok _) (by omega), Int.toNat_natCast, ofN_nat (by omega)]
          have kq : eqW x (bkW x ex e) = decide (x.nat % 2 ^ j = 0) := by rw [hk, back_iff hx hb']
          have kok : decide ((ofN (tw (shrW x (dnI ex e)) true)).ok ∧ -9223372036854775808 ≤ dn1 ex e ∧ dn1 ex e ≤ 9223372036854775807) = true := lok_ok (ofN_ok _) (by omega) (by omega)
          have ks : decide (shrW x (dnI ex e)).ok = true := by rw [hs]; exact decide_eq_true (ofN_ok _)
          by_cases hz : x.nat % 2 ^ j = 0
          · rw [← eV 2 (by rw [rc_half hb' hz])]
            exact fits_calls (tabY_ok conH_ok) (ct6 n x ex e false) (okCons (by rw [kq, decide_eq_true hz]; rfl) (okCons kok (okCons ks (okCons (by rw [kb, hb']; rfl) (okCons k2 (okCons k0 (okCons k1 (okL1 kf)))))))) hv (by rfl) w
          · rw [← eV 3 (by rw [rc_above hb' (.inl hz)])]
            exact fits_calls (tabY_ok conH_ok) (ct6 n x ex e true) (okCons (by rw [kq, decide_eq_false hz]; rfl) (okCons kok (okCons ks (okCons (by rw [kb, hb']; rfl) (okCons k2 (okCons k0 (okCons k1 (okL1 kf)))))))) hv (by rfl) w
        · rw [← eV 3 (by rw [rc_above hb' (.inr rfl)])]
          exact fits_calls (tabY_ok conH_ok) (ct5 n x ex e) (okCons (by rw [kb, hb']; rfl) (okCons k2 (okCons k0 (okCons k1 (okL1 kf))))) hv (by rfl) w
/-- what cut asks of its numbers -/
def okCut (x : W4) (ex e : Int) : Bool := decide (x.ok ∧ -4000 ≤ ex ∧ ex ≤ e ∧ e ≤ 4000)
def gCut : Ans := fun vals s =>
  match vals with
  | [v, .int .i64 e] =>
    match n7 v with
    | some (_, ex, x, b) => some (cutT x b (e - ex).toNat, s, [(okCut x ex e, true)])
    | none => none
  | _ => none
theorem gCut_ok : AnsOk 66 gCut := by
  intro vals s v s' lg h hl w
  unfold gCut at h
  split at h
  · split at h
    · rename_i n ex x b hn
      cases h
      have h1 := of_decide_eq_true (hl _ (List.mem_singleton.2 rfl))
      rw [n7_spec hn]
      exact cut_calls n b x ex _ h1.1 h1.2.1 h1.2.2.1 h1.2.2.2 w
    · cases h
  · cases h
def conC : Con := alt 67 gUp (alt 66 gCut conH)
theorem conC_ok : ConOk conC := alt_ok Try.func67 rfl gUp_ok (alt_ok Try.func66 rfl gCut_ok conH_ok)
end Go.Proofs.Yteglhjkpcljpmaa

/-
  rnd.toMultiple, as a call in every world.
-/
namespace Go.Proofs.Yteglhjkpcljpmaa
open Go.KRun Go.Wd Go.Pt Go.Rn
set_option maxRecDepth 100000

def lowW (x : W4) (b : Bool) (ex e : Int) : W4 := ofN (tw x b / 2 ^ ((e - ex).toNat + 1))
def rsI (x : W4) (b : Bool) (ex e : Int) : Int := restC (tw x b % 2 ^ ((e - ex).toNat + 1)) (2 ^ ((e - ex).toNat + 1))
def upX (m : Int) (n : Bool) (x : W4) (b : Bool) (ex e : Int) : Bool := upR m n (bitI (lowW x b ex e) 0 != 0) (rsI x b ex e)
def up1 (ex e : Int) : Int := IntKind.i64.wrap (IntKind.i64.wrap (ex - e) - 1)
def w1 : W4 := ⟨1, 0, 0, 0⟩
def w63 : W4 := ⟨0, 0, 0, 9223372036854775808⟩
def lAd (x : W4) : Bool × Bool := (decide (x.ok ∧ w1.ok), true)
def lBt (x : W4) : Bool × Bool := (decide (x.ok ∧ (-9223372036854775808 : Int) ≤ 0 ∧ (0 : Int) ≤ 9223372036854775807), true)
def lOv (x : W4) (d : Bool) : Bool × Bool := (decide (115792089237316195423570985008687907853269984665640564039457584007913129639936 ≤ x.val + w1.val), d)
def tmR (n : Bool) (e : Int) (x : W4) (l : Bool) : Value := .tuple #[vN n e x false, .bool l]
theorem tm0 (n b : Bool) (x : W4) (ex e m : Int) : Fits (reckon (tabOf Try.prog extY conC true) 300 52 [vN n ex x b, .int .i64 e, .int .i64 m] [cmp true]) (tmR n e (shlW (ofN (tw x b)) (up1 ex e)) false) [lok (ofN (tw x b)) (up1 ex e), (decide x.ok, true), (decide (e < ex), true)] := ⟨by kernel_rfl, by kernel_rfl, by kernel_rfl, by kernel_rfl⟩
theorem tm1 (n b : Bool) (x : W4) (ex e m : Int) : Fits (reckon (tabOf Try.prog extY conC true) 300 52 [vN n ex x b, .int .i64 e, .int .i64 m] [cmp false, tst false, tst false]) (tmR n e (lowW x b ex e) (rsI x b ex e != 0)) [(upX m n x b ex e, false), lBt (lowW x b ex e), (okCut x ex e, true), (false, false), (decide (e < ex), false)] := ⟨by kernel_rfl, by kernel_rfl, by kernel_rfl, by kernel_rfl⟩
theorem tm2 (n b : Bool) (x : W4) (ex e m : Int) : Fits (reckon (tabOf Try.prog extY conC true) 300 52 [vN n ex x b, .int .i64 e, .int .i64 m] [cmp false, tst false, tst true, tst false]) (tmR n e (W4.of ((lowW x b ex e).val + w1.val)) (rsI x b ex e != 0)) [lOv (lowW x b ex e) false, lAd (lowW x b ex e), lAd (lowW x b ex e), lAd (lowW x b ex e), (upX m n x b ex e, true), lBt (lowW x b ex e), (okCut x ex e, true), (false, false), (decide (e < ex), false)] := ⟨by kernel_rfl, by kernel_rfl, by kernel_rfl, by kernel_rfl⟩
theorem tm3 (n b : Bool) (x : W4) (ex e m : Int) : Fits (reckon (tabOf Try.prog extY conC true) 300 52 [vN n ex x b, .int .i64 e, .int .i64 m] [cmp false, tst false, tst true, tst true]) (tmR n (IntKind.i64.wrap (e + 1)) w63 (rsI x b ex e != 0)) [lOv (lowW x b ex e) true, lAd (lowW x b ex e), lAd (lowW x b ex e), lAd (lowW x b ex e), (upX m n x b ex e, true), lBt (lowW x b ex e), (okCut x ex e, true), (false, false), (decide (e < ex), false)] := ⟨by kernel_rfl, by kernel_rfl, by kernel_rfl, by kernel_rfl⟩

theorem ofN_nat' (n : Nat) : (ofN n).nat = n % 2 ^ 256 := by
  have e : (2 : Nat) ^ 256 = 115792089237316195423570985008687907853269984665640564039457584007913129639936 := rfl
  unfold W4.nat ofN
  rw [W4.val_of, e]
  omega
theorem low_lt {x : W4} (hx : x.ok) (b : Bool) (d : Nat) : tw x b / 2 ^ (d + 1) < 2 ^ 256 := by
  rw [tw_div]
  exact Nat.lt_of_le_of_lt (Nat.div_le_self _ _) (W4.nat_lt hx)
theorem upX_eq {m : Int} {n : Bool} {x : W4} {b : Bool} {ex e : Int} (hx : x.ok) : upX m n x b ex e = upR m n (odd (tw x b / 2 ^ ((e - ex).toNat + 1))) (rsI x b ex e) := by
  unfold upX lowW
  congr 1
  rw [bitI_nat (ofN_ok _) (by omega), ofN_nat (low_lt hx _ _)]
  unfold odd
  generalize tw x b / 2 ^ ((e - ex).toNat + 1) = q
  have e0 : q / 2 ^ (0 : Int).toNat % 2 = q % 2 := by simp
  rw [e0, Bool.eq_iff_iff]
  simp only [bne_iff_ne, ne_eq, decide_eq_true_eq]
  omega
theorem toQ_down {m : Int} {n : Bool} {T : Nat} {ex e : Int} (h : ex ≤ e) : toQ m n T (ex - 1) e = rq m n T ((e - ex).toNat + 1) := by
  unfold toQ
  rw [if_neg (by omega)]
  congr 1
  omega
theorem toL_down {T : Nat} {ex e : Int} (h : ex ≤ e) : toL T (ex - 1) e = decide (T % 2 ^ ((e - ex).toNat + 1) ≠ 0) := by
  unfold toL
  rw [if_neg (by omega), show (e - (ex - 1)).toNat = (e - ex).toNat + 1 by omega]
theorem rs_ne {x : W4} {b : Bool} {ex e : Int} (h : ex ≤ e) : (rsI x b ex e != 0) = toL (tw x b) (ex - 1) e := by
  rw [toL_down h, Bool.eq_iff_iff]
  simp only [bne_iff_ne, ne_eq, decide_eq_true_eq]
  unfold rsI
  rw [restC_iff]
theorem tm_calls (n b : Bool) (x : W4) (ex e m : Int) (hx : x.ok) (h1 : -4000 ≤ ex) (h1' : ex ≤ 4000) (h2 : -4000 ≤ e) (h3 : e ≤ 4000) (hq : toQ m n (tw x b) (ex - 1) e < 2 ^ 256) (w : World) : Calls Try.prog 52 #[vN n ex x b, .int .i64 e, .int .i64 m] w fun r w' => r = .returned (tmR n e (ofN (toQ m n (tw x b) (ex - 1) e)) (toL (tw x b) (ex - 1) e)) ∧ Tidy w w' := by
  have hv : ([vN n ex x b, .int .i64 e, .int .i64 m].all (lt 0)) = true := rfl
  by_cases hlt : e < ex
  · have e1 : up1 ex e = ex - e - 1 := by unfold up1; rw [wrapI' (n := ex - e) ⟨by omega, by omega⟩, wrapI' ⟨by omega, by omega⟩]
    have h := fits_calls (tabY_ok conC_ok) (tm0 n b x ex e m) (okCons (lok_ok (ofN_ok _) (by omega) (by omega)) (okCons (decide_eq_true hx) (okL1 (decide_eq_true hlt)))) hv (by rfl) w
    rw [e1, shlW_nat (ofN_ok _) (by omega), ofN_nat', ofN_mul_mod] at h
    unfold toQ toL
    rw [if_pos (by omega), if_pos (by omega), show (ex - 1 - e).toNat = (ex - e - 1).toNat by omega]
    exact h
  · have hle : ex ≤ e := by omega
    have kc : okCut x ex e = true := decide_eq_true ⟨hx, h1, hle, h3⟩
    have kb : (decide ((lowW x b ex e).ok ∧ (-9223372036854775808 : Int) ≤ 0 ∧ (0 : Int) ≤ 9223372036854775807)) = true := decide_eq_true ⟨ofN_ok _, by omega, by omega⟩
    have kl : decide (e < ex) = false := decide_eq_false hlt
    have ka : decide ((lowW x b ex e).ok ∧ w1.ok) = true := decide_eq_true ⟨ofN_ok _, W4.ok_of 1⟩
    rw [toQ_down hle] at hq ⊢
    rw [← rs_ne hle]
    have hu := upX_eq (m := m) (n := n) (b := b) (ex := ex) (e := e) hx
    unfold rq at hq ⊢
    by_cases hup : upX m n x b ex e = true
    · rw [hu] at hup
      unfold rsI at hup
      rw [if_pos hup] at hq ⊢
      have hval : (lowW x b ex e).val = ((tw x b / 2 ^ ((e - ex).toNat + 1) : Nat) : Int) := by
        unfold lowW
        rw [W4.nat_val (ofN_ok _), ofN_nat (low_lt hx _ _)]
      have e256 : (2 : Nat) ^ 256 = 115792089237316195423570985008687907853269984665640564039457584007913129639936 := rfl
      have hw1 : w1.val = 1 := rfl
      have ko : decide (115792089237316195423570985008687907853269984665640564039457584007913129639936 ≤ (lowW x b ex e).val + w1.val) = false := decide_eq_false (by rw [hval, hw1]; omega)
      have h := fits_calls (tabY_ok conC_ok) (tm2 n b x ex e m) (okCons ko (okCons ka (okCons ka (okCons ka (okCons (by rw [hu]; exact hup) (okCons kb (okCons kc (okCons rfl (okL1 kl))))))))) hv (by rfl) w
      rw [hval, hw1] at h
      exact h
    · rw [Bool.not_eq_true] at hup
      have h := fits_calls (tabY_ok conC_ok) (tm1 n b x ex e m) (okCons hup (okCons kb (okCons kc (okCons rfl (okL1 kl))))) hv (by rfl) w
      rw [hu] at hup
      unfold rsI at hup
      rw [hup]
      exact h
theorem tm_over (n b : Bool) (x : W4) (ex e m : Int) (hx : x.ok) (h1 : -4000 ≤ ex) (hle : ex ≤ e) (h3 : e ≤ 4000) (hq : ¬ toQ m n (tw x b) (ex - 1) e < 2 ^ 256) (w : World) : Calls Try.prog 52 #[vN n ex x b, .int .i64 e, .int .i64 m] w fun r w' => r = .returned (tmR n (e + 1) w63 (toL (tw x b) (ex - 1) e)) ∧ Tidy w w' := by
  have hv : ([vN n ex x b, .int .i64 e, .int .i64 m].all (lt 0)) = true := rfl
  have hlt : ¬ e < ex := by omega
  have kc : okCut x ex e = true := decide_eq_true ⟨hx, h1, hle, h3⟩
  have kb : (decide ((lowW x b ex e).ok ∧ (-9223372036854775808 : Int) ≤ 0 ∧ (0 : Int) ≤ 9223372036854775807)) = true := decide_eq_true ⟨ofN_ok _, by omega, by omega⟩
  have kl : decide (e < ex) = false := decide_eq_false hlt
  have ka : decide ((lowW x b ex e).ok ∧ w1.ok) = true := decide_eq_true ⟨ofN_ok _, W4.ok_of 1⟩
  rw [toQ_down hle] at hq
  rw [← rs_ne hle]
  have hu := upX_eq (m := m) (n := n) (b := b) (ex := ex) (e := e) hx
  have hlw := low_lt hx b (e - ex).toNat
  unfold rq at hq
  by_cases hup : upX m n x b ex e = true
  · have hup' := hup
    rw [hu] at hup
    unfold rsI at hup
    rw [if_pos hup] at hq
    have hval : (lowW x b ex e).val = ((tw x b / 2 ^ ((e - ex).toNat + 1) : Nat) : Int) := by
      unfold lowW
      rw [W4.nat_val (ofN_ok _), ofN_nat (low_lt hx _ _)]
    have e256 : (2 : Nat) ^ 256 = 115792089237316195423570985008687907853269984665640564039457584007913129639936 := rfl
    have hw1 : w1.val = 1 := rfl
    have ko : decide (115792089237316195423570985008687907853269984665640564039457584007913129639936 ≤ (lowW x b ex e).val + w1.val) = true := decide_eq_true (by rw [hval, hw1]; omega)
    have h := fits_calls (tabY_ok conC_ok) (tm3 n b x ex e m) (okCons ko (okCons ka (okCons ka (okCons ka (okCons hup' (okCons kb (okCons kc (okCons rfl (okL1 kl))))))))) hv (by rfl) w
    rw [wrapI' ⟨by omega, by omega⟩] at h
    exact h
  · rw [hu] at hup
    unfold rsI at hup
    rw [if_neg hup] at hq
    omega
/-- what it asks; whether all bits fit is told ahead -/
def okTm (x : W4) (ex e : Int) : Bool := decide (x.ok ∧ -4000 ≤ ex ∧ ex ≤ 4000 ∧ -4000 ≤ e ∧ e ≤ 4000)
def gTm : Ans := fun vals s =>
  match vals with
  | [v, .int .i64 e, .int .i64 m] =>
    match n7 v, s with
    | some (n, ex, x, b), .inr (.inr (.inr (.inl true))) :: .inr (.inr (.inr (.inl d))) :: s' => some (tmR n e (ofN (toQ m n (tw x b) (ex - 1) e)) d, s', [(toL (tw x b) (ex - 1) e, d), (decide (toQ m n (tw x b) (ex - 1) e < 2 ^ 256), true), (okTm x ex e, true)])
    | some (n, ex, x, b), [.inr (.inr (.inr (.inl true)))] => some (tmR n e (ofN (toQ m n (tw x b) (ex - 1) e)) (toL (tw x b) (ex - 1) e), [], [(decide (toQ m n (tw x b) (ex - 1) e < 2 ^ 256), true), (okTm x ex e, true)])
    | some (n, ex, x, b), .inr (.inr (.inr (.inl false))) :: s' => some (tmR n (e + 1) w63 (toL (tw x b) (ex - 1) e), s', [(decide (toQ m n (tw x b) (ex - 1) e < 2 ^ 256), false), (decide (ex ≤ e), true), (okTm x ex e, true)])
    | _, _ => none
  | _ => none
theorem gTm_ok : AnsOk 52 gTm := by
  intro vals s v s' lg h hl w
  unfold gTm at h
  split at h
  · split at h
    · rename_i n ex x b d s2 hn
      cases h
      rw [okCs, okCs, okCs] at hl
      have h1 := of_decide_eq_true hl.2.2.1
      rw [n7_spec hn, ← hl.1]
      exact tm_calls n b x ex _ _ h1.1 h1.2.1 h1.2.2.1 h1.2.2.2.1 h1.2.2.2.2 (of_decide_eq_true hl.2.1) w
    · rename_i n ex x b hn
      cases h
      rw [okCs, okCs] at hl
      have h1 := of_decide_eq_true hl.2.1
      rw [n7_spec hn]
      exact tm_calls n b x ex _ _ h1.1 h1.2.1 h1.2.2.1 h1.2.2.2.1 h1.2.2.2.2 (of_decide_eq_true hl.1) w
    · rename_i n ex x b s2 hn
      cases h
      rw [okCs, okCs, okCs] at hl
      have h1 := of_decide_eq_true hl.2.2.1
      rw [n7_spec hn]
      exact tm_over n b x ex _ _ h1.1 h1.2.1 (of_decide_eq_true hl.2.1) h1.2.2.2.2 (of_decide_eq_false hl.1) w
    · cases h
  · cases h
def conT : Con := alt 52 gTm conC
theorem conT_ok : ConOk conT := alt_ok Try.func52 rfl gTm_ok conC_ok
end Go.Proofs.Yteglhjkpcljpmaa

/-
  rnd.isTiny, rnd.beyond, rnd.nearer, as calls in every world.
-/
namespace Go.Proofs.Yteglhjkpcljpmaa
open Go.KRun Go.Wd Go.Pt Go.Rn
set_option maxRecDepth 100000

/-! ### nearer -/
def clp (e : Int) : Int := if 2000 < (if -2000 > e then -2000 else e) then 2000 else (if -2000 > e then -2000 else e)
theorem clp_bd (e : Int) : -2000 ≤ clp e ∧ clp e ≤ 2000 := by unfold clp; split <;> split <;> omega
theorem nr_fits (n b : Bool) (x : W4) (e : Int) : Fits (reckon (tabOf Try.prog extY conN true) 300 50 [vN n e x b] []) (vN n (clp e) x b) [] := ⟨by kernel_rfl, by kernel_rfl, by kernel_rfl, by kernel_rfl⟩
def gNear : Ans := fun vals s =>
  match vals with
  | [v] =>
    match n7 v with
    | some (n, e, x, b) => some (vN n (clp e) x b, s, [])
    | none => none
  | _ => none
theorem gNear_ok : AnsOk 50 gNear := by
  intro vals s v s' lg h hl w
  unfold gNear at h
  split at h
  · split at h
    · rename_i n e x b hn
      cases h
      rw [n7_spec hn]
      exact fits_calls (tabY_ok conN_ok) (nr_fits n b x e) okNl (by rfl) (by rfl) w
    · cases h
  · cases h
/-! ### beyond -/
theorem by_t (n : Bool) (m : Int) : Fits (reckon (tabOf Try.prog extY conT true) 300 54 [.bool n, .int .i64 m] [tst true]) (.int .u64 9218868437227405312) [(upR m n true 3, true)] := ⟨by kernel_rfl, by kernel_rfl, by kernel_rfl, by kernel_rfl⟩
theorem by_f (n : Bool) (m : Int) : Fits (reckon (tabOf Try.prog extY conT true) 300 54 [.bool n, .int .i64 m] [tst false]) (.int .u64 9218868437227405311) [(upR m n true 3, false)] := ⟨by kernel_rfl, by kernel_rfl, by kernel_rfl, by kernel_rfl⟩
def gBey : Ans := fun vals s =>
  match vals with
  | [.bool n, .int .i64 m] => some (.int .u64 (bey m n), s, [])
  | _ => none
theorem gBey_ok : AnsOk 54 gBey := by
  intro vals s v s' lg h hl w
  unfold gBey at h
  split at h
  · rename_i n m
    cases h
    unfold bey
    by_cases hu : upR m n true 3 = true
    · rw [if_pos hu]
      exact fits_calls (tabY_ok conT_ok) (by_t n m) (okL1 hu) (by rfl) (by rfl) w
    · rw [if_neg hu]
      exact fits_calls (tabY_ok conT_ok) (by_f n m) (okL1 (by simpa using hu)) (by rfl) (by rfl) w
  · cases h
/-! ### isTiny -/
def m52 (k : Int) : Int := IntKind.i64.wrap (k - 52)
def tnQ (m : Int) (n : Bool) (x : W4) (b : Bool) (ex k : Int) : W4 := ofN (toQ m n (tw x b) (ex - 1) (m52 k))
def lgW (e : Int) (x : W4) : Int := IntKind.i64.wrap (IntKind.i64.wrap (e + lenI x) - 1)
theorem ti0 (n b : Bool) (x : W4) (ex k m : Int) : Fits (reckon (tabOf Try.prog extY conT true) 300 55 [vN n ex x b, .int .i64 k, .int .i64 m] [cmp true]) (.bool (decide (k < -1022))) [(k != -1023, true)] := ⟨by kernel_rfl, by kernel_rfl, by kernel_rfl, by kernel_rfl⟩
theorem ti1 (n b : Bool) (x : W4) (ex k m : Int) : Fits (reckon (tabOf Try.prog extY conT true) 300 55 [vN n ex x b, .int .i64 k, .int .i64 m] [cmp false, cmp true]) (.bool (decide (lgW (m52 k) (tnQ m n x b ex k) < -1022))) [(decide (tnQ m n x b ex k).ok, true), (decide (toQ m n (tw x b) (ex - 1) (m52 k) < 2 ^ 256), true), (okTm x ex (m52 k), true), (k != -1023, false)] := ⟨by kernel_rfl, by kernel_rfl, by kernel_rfl, by kernel_rfl⟩
def tnK (m : Int) (n : Bool) (T : Nat) (E k : Int) : Bool := if k = -1023 then decide (toQ m n T E (-1075) < 9007199254740992) else decide (k < -1022)
theorem lenI_nat (x : W4) : lenI x = (bitLen x.nat : Nat) := rfl
theorem len_lt53 {q : Nat} : bitLen q < 54 ↔ q < 9007199254740992 := by
  constructor
  · intro h
    have h1 := (bitLen_spec q).1
    have h2 := Nat.pow_le_pow_right (show 0 < 2 by omega) (show bitLen q ≤ 53 by omega)
    have e : (2 : Nat) ^ 53 = 9007199254740992 := rfl
    omega
  · intro h
    have := len_le (T := q) (k := 53) h
    omega
theorem tiny_calls (n b : Bool) (x : W4) (ex k m : Int) (h1 : x.ok ∧ -4000 ≤ ex ∧ ex ≤ 4000 ∧ -4000 ≤ (0 : Int) ∧ (0 : Int) ≤ 4000) (h2 : k = -1023 → toQ m n (tw x b) (ex - 1) (-1075) < 2 ^ 256) (w : World) : Calls Try.prog 55 #[vN n ex x b, .int .i64 k, .int .i64 m] w fun r w' => r = .returned (.bool (tnK m n (tw x b) (ex - 1) k)) ∧ Tidy w w' := by
  unfold tnK
  by_cases hk : k = -1023
  · rw [if_pos hk]
    have e0 : m52 k = -1075 := by rw [hk]; rfl
    have hq := h2 hk
    have hlen : bitLen (toQ m n (tw x b) (ex - 1) (-1075)) ≤ 256 := len_le hq
    have e1 : lgW (m52 k) (tnQ m n x b ex k) = -1076 + (bitLen (toQ m n (tw x b) (ex - 1) (-1075)) : Nat) := by
      unfold lgW tnQ
      rw [e0, lenI_nat, ofN_nat hq, wrapI' (n := -1075 + ((bitLen (toQ m n (tw x b) (ex - 1) (-1075)) : Nat) : Int)) ⟨by omega, by omega⟩, wrapI' ⟨by omega, by omega⟩]
      omega
    have h := fits_calls (tabY_ok conT_ok) (ti1 n b x ex k m) (okCons (decide_eq_true (ofN_ok _)) (okCons (by rw [e0]; exact decide_eq_true hq) (okCons (by rw [e0]; exact decide_eq_true ⟨h1.1, h1.2.1, h1.2.2.1, by omega, by omega⟩) (okL1 (by rw [hk]; rfl))))) (by rfl) (by rfl) w
    rw [e1] at h
    have e2 : decide (-1076 + ((bitLen (toQ m n (tw x b) (ex - 1) (-1075)) : Nat) : Int) < -1022) = decide (toQ m n (tw x b) (ex - 1) (-1075) < 9007199254740992) := by
      congr 1
      rw [← len_lt53]
      simp only [eq_iff_iff]
      omega
    rw [e2] at h
    exact h
  · rw [if_neg hk]
    exact fits_calls (tabY_ok conT_ok) (ti0 n b x ex k m) (okL1 (by simpa using hk)) (by rfl) (by rfl) w

def gTiny : Ans := fun vals s =>
  match vals with
  | [v, .int .i64 k, .int .i64 m] =>
    match n7 v, s with
    | some (n, ex, x, b), .inr (.inr (.inr (.inl d))) :: s' => some (.bool d, s', [(tnK m n (tw x b) (ex - 1) k, d), (decide (k = -1023 → toQ m n (tw x b) (ex - 1) (-1075) < 2 ^ 256), true), (okTm x ex 0, true)])
    | _, _ => none
  | _ => none
theorem gTiny_ok : AnsOk 55 gTiny := by
  intro vals s v s' lg h hl w
  unfold gTiny at h
  split at h
  · split at h
    · rename_i n ex x b d s2 hn
      cases h
      rw [okCs, okCs, okCs] at hl
      rw [n7_spec hn, ← hl.1]
      exact tiny_calls n b x ex _ _ (of_decide_eq_true hl.2.2.1) (of_decide_eq_true hl.2.1) w
    · cases h
  · cases h
def conTi : Con := alt 50 gNear (alt 54 gBey (alt 55 gTiny conT))
theorem conTi_ok : ConOk conTi := alt_ok Try.func50 rfl gNear_ok (alt_ok Try.func54 rfl gBey_ok (alt_ok Try.func55 rfl gTiny_ok conT_ok))
end Go.Proofs.Yteglhjkpcljpmaa
