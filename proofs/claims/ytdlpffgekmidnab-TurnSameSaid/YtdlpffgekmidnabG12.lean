/-
  RnC, RnD, RnE, NumTa
-/
import Derived.Test.YtdlpffgekmidnabG11
namespace Go.Proofs.Ytdlpffgekmidnab
open Go.KRun Go.Wd Go.Pt Go.Rn
set_option maxRecDepth 100000
def lowW (x : W4) (b : Bool) (ex e : Int) : W4 := ofN (tw x b / 2 ^ ((e - ex).toNat + 1))
def rsI (x : W4) (b : Bool) (ex e : Int) : Int := restC (tw x b % 2 ^ ((e - ex).toNat + 1)) (2 ^ ((e - ex).toNat + 1))
def upX (m : Int) (n : Bool) (x : W4) (b : Bool) (ex e : Int) : Bool := upR m n (bitI (lowW x b ex e) 0 != 0) (rsI x b ex e)
def up1 (ex e : Int) : Int := IntKind.i64.wrap (IntKind.i64.wrap (ex - e) - 1)
def w1 : W4 := ⟨1, 0, 0, 0⟩
def w63 : W4 := ⟨0, 0, 0, 9223372036854775808⟩
def lAd (x : W4) : Bool × Bool := (decide (x.ok ∧ w1.ok), true)
def lBt (x : W4) : Bool × Bool := (decide (x.ok ∧ (-9223372036854775808 : Int) ≤ 0 ∧ (0 : Int) ≤ 9223372036854775807), true)
def lOv (x : W4) (d : Bool) : Bool × Bool := (decide (115792089237316195423570985008687907853269984665640564039457584007913129639936 ≤ x.val + w1.val), d)
def tmR (n : Bool) (e : Int) (x : W4) (l : Bool) : Value := .tuple #[vN n e x false, .bool l]
theorem tm0 (n b : Bool) (x : W4) (ex e m : Int) : Fits (reckon (tabOf Try.prog extY conC true) 300 22 [vN n ex x b, .int .i64 e, .int .i64 m] [cmp true]) (tmR n e (shlW (ofN (tw x b)) (up1 ex e)) false) [lok (ofN (tw x b)) (up1 ex e), (decide x.ok, true), (decide (e < ex), true)] := ⟨by kernel_rfl, by kernel_rfl, by kernel_rfl, by kernel_rfl⟩
theorem tm1 (n b : Bool) (x : W4) (ex e m : Int) : Fits (reckon (tabOf Try.prog extY conC true) 300 22 [vN n ex x b, .int .i64 e, .int .i64 m] [cmp false, tst false, tst false]) (tmR n e (lowW x b ex e) (rsI x b ex e != 0)) [(upX m n x b ex e, false), lBt (lowW x b ex e), (okCut x ex e, true), (false, false), (decide (e < ex), false)] := ⟨by kernel_rfl, by kernel_rfl, by kernel_rfl, by kernel_rfl⟩
theorem tm2 (n b : Bool) (x : W4) (ex e m : Int) : Fits (reckon (tabOf Try.prog extY conC true) 300 22 [vN n ex x b, .int .i64 e, .int .i64 m] [cmp false, tst false, tst true, tst false]) (tmR n e (W4.of ((lowW x b ex e).val + w1.val)) (rsI x b ex e != 0)) [lOv (lowW x b ex e) false, lAd (lowW x b ex e), lAd (lowW x b ex e), lAd (lowW x b ex e), (upX m n x b ex e, true), lBt (lowW x b ex e), (okCut x ex e, true), (false, false), (decide (e < ex), false)] := ⟨by kernel_rfl, by kernel_rfl, by kernel_rfl, by kernel_rfl⟩
theorem tm3 (n b : Bool) (x : W4) (ex e m : Int) : Fits (reckon (tabOf Try.prog extY conC true) 300 22 [vN n ex x b, .int .i64 e, .int .i64 m] [cmp false, tst false, tst true, tst true]) (tmR n (IntKind.i64.wrap (e + 1)) w63 (rsI x b ex e != 0)) [lOv (lowW x b ex e) true, lAd (lowW x b ex e), lAd (lowW x b ex e), lAd (lowW x b ex e), (upX m n x b ex e, true), lBt (lowW x b ex e), (okCut x ex e, true), (false, false), (decide (e < ex), false)] := ⟨by kernel_rfl, by kernel_rfl, by kernel_rfl, by kernel_rfl⟩
theorem ofN_nat' (n : Nat) : (ofN n).nat = n % 2 ^ 256 := by
  have e : (2 : Nat) ^ 256 = 115792089237316195423570985008687907853269984665640564039457584007913129639936 := rfl
  unfold W4.nat ofN
  rw [W4.val_of, e]
  omega
theorem low_lt {x : W4} (hx : x.ok) (b : Bool) (d : Nat) : tw x b / 2 ^ (d + 1) < 2 ^ 256 := by
  rw [tw_div]
  exact Nat.lt_of_le_of_lt (Nat.div_le_self _ _) (W4.nat_lt hx)
theorem upX_eq {m : Int} {n : Bool} {x : W4} {b : Bool} {ex e : Int} (hx : x.ok) : upX m n x b ex e = upR m n (odd (tw x b / 2 ^ ((e - ex).toNat + 1))) (rsI x b ex e) := by
  unfold upX lowW
  congr 1
  rw [bitI_nat (ofN_ok _) (by omega), ofN_nat (low_lt hx _ _)]
  unfold odd
  generalize tw x b / 2 ^ ((e - ex).toNat + 1) = q
  have e0 : q / 2 ^ (0 : Int).toNat % 2 = q % 2 := by simp
  rw [e0, Bool.eq_iff_iff]
  simp only [bne_iff_ne, ne_eq, decide_eq_true_eq]
  omega
theorem toQ_down {m : Int} {n : Bool} {T : Nat} {ex e : Int} (h : ex ≤ e) : toQ m n T (ex - 1) e = rq m n T ((e - ex).toNat + 1) := by
  unfold toQ
  rw [if_neg (by omega)]
  congr 1
  omega
theorem toL_down {T : Nat} {ex e : Int} (h : ex ≤ e) : toL T (ex - 1) e = decide (T % 2 ^ ((e - ex).toNat + 1) ≠ 0) := by
  unfold toL
  rw [if_neg (by omega), show (e - (ex - 1)).toNat = (e - ex).toNat + 1 by omega]
theorem rs_ne {x : W4} {b : Bool} {ex e : Int} (h : ex ≤ e) : (rsI x b ex e != 0) = toL (tw x b) (ex - 1) e := by
  rw [toL_down h, Bool.eq_iff_iff]
  simp only [bne_iff_ne, ne_eq, decide_eq_true_eq]
  unfold rsI
  rw [restC_iff]
theorem tm_calls (n b : Bool) (x : W4) (ex e m : Int) (hx : x.ok) (h1 : -4000 ≤ ex) (h1' : ex ≤ 4000) (h2 : -4000 ≤ e) (h3 : e ≤ 4000) (hq : toQ m n (tw x b) (ex - 1) e < 2 ^ 256) (w : World) : Calls Try.prog 22 #[vN n ex x b, .int .i64 e, .int .i64 m] w fun r w' => r = .returned (tmR n e (ofN (toQ m n (tw x b) (ex - 1) e)) (toL (tw x b) (ex - 1) e)) ∧ Tidy w w' := by
  have hv : ([vN n ex x b, .int .i64 e, .int .i64 m].all (lt 0)) = true := rfl
  by_cases hlt : e < ex
  · have e1 : up1 ex e = ex - e - 1 := by unfold up1; rw [wrapI' (n := ex - e) ⟨by omega, by omega⟩, wrapI' ⟨by omega, by omega⟩]
    have h := fits_calls (tabY_ok conC_ok) (tm0 n b x ex e m) (okCons (lok_ok (ofN_ok _) (by omega) (by omega)) (okCons (decide_eq_true hx) (okL1 (decide_eq_true hlt)))) hv (by rfl) w
    rw [e1, shlW_nat (ofN_ok _) (by omega), ofN_nat', ofN_mul_mod] at h
    unfold toQ toL
    rw [if_pos (by omega), if_pos (by omega), show (ex - 1 - e).toNat = (ex - e - 1).toNat by omega]
    exact h
  · have hle : ex ≤ e := by omega
    have kc : okCut x ex e = true := decide_eq_true ⟨hx, h1, hle, h3⟩
    have kb : (decide ((lowW x b ex e).ok ∧ (-9223372036854775808 : Int) ≤ 0 ∧ (0 : Int) ≤ 9223372036854775807)) = true := decide_eq_true ⟨ofN_ok _, by omega, by omega⟩
    have kl : decide (e < ex) = false := decide_eq_false hlt
    have ka : decide ((lowW x b ex e).ok ∧ w1.ok) = true := decide_eq_true ⟨ofN_ok _, W4.ok_of 1⟩
    rw [toQ_down hle] at hq ⊢
    rw [← rs_ne hle]
    have hu := upX_eq (m := m) (n := n) (b := b) (ex := ex) (e := e) hx
    unfold rq at hq ⊢
    by_cases hup : upX m n x b ex e = true
    · rw [hu] at hup
      unfold rsI at hup
      rw [if_pos hup] at hq ⊢
      have hval : (lowW x b ex e).val = ((tw x b / 2 ^ ((e - ex).toNat + 1) : Nat) : Int) := by
        unfold lowW
        rw [W4.nat_val (ofN_ok _), ofN_nat (low_lt hx _ _)]
      have e256 : (2 : Nat) ^ 256 = 115792089237316195423570985008687907853269984665640564039457584007913129639936 := rfl
      have hw1 : w1.val = 1 := rfl
      have ko : decide (115792089237316195423570985008687907853269984665640564039457584007913129639936 ≤ (lowW x b ex e).val + w1.val) = false := decide_eq_false (by rw [hval, hw1]; omega)
      have h := fits_calls (tabY_ok conC_ok) (tm2 n b x ex e m) (okCons ko (okCons ka (okCons ka (okCons ka (okCons (by rw [hu]; exact hup) (okCons kb (okCons kc (okCons rfl (okL1 kl))))))))) hv (by rfl) w
      rw [hval, hw1] at h
      exact h
    · rw [Bool.not_eq_true] at hup
      have h := fits_calls (tabY_ok conC_ok) (tm1 n b x ex e m) (okCons hup (okCons kb (okCons kc (okCons rfl (okL1 kl))))) hv (by rfl) w
      rw [hu] at hup
      unfold rsI at hup
      rw [hup]
      exact h
theorem tm_over (n b : Bool) (x : W4) (ex e m : Int) (hx : x.ok) (h1 : -4000 ≤ ex) (hle : ex ≤ e) (h3 : e ≤ 4000) (hq : ¬ toQ m n (tw x b) (ex - 1) e < 2 ^ 256) (w : World) : Calls Try.prog 22 #[vN n ex x b, .int .i64 e, .int .i64 m] w fun r w' => r = .returned (tmR n (e + 1) w63 (toL (tw x b) (ex - 1) e)) ∧ Tidy w w' := by
  have hv : ([vN n ex x b, .int .i64 e, .int .i64 m].all (lt 0)) = true := rfl
  have hlt : ¬ e < ex := by omega
  have kc : okCut x ex e = true := decide_eq_true ⟨hx, h1, hle, h3⟩
  have kb : (decide ((lowW x b ex e).ok ∧ (-9223372036854775808 : Int) ≤ 0 ∧ (0 : Int) ≤ 9223372036854775807)) = true := decide_eq_true ⟨ofN_ok _, by omega, by omega⟩
  have kl : decide (e < ex) = false := decide_eq_false hlt
  have ka : decide ((lowW x b ex e).ok ∧ w1.ok) = true := decide_eq_true ⟨ofN_ok _, W4.ok_of 1⟩
  rw [toQ_down hle] at hq
  rw [← rs_ne hle]
  have hu := upX_eq (m := m) (n := n) (b := b) (ex := ex) (e := e) hx
  have hlw := low_lt hx b (e - ex).toNat
  unfold rq at hq
  by_cases hup : upX m n x b ex e = true
  · have hup' := hup
    rw [hu] at hup
    unfold rsI at hup
    rw [if_pos hup] at hq
    have hval : (lowW x b ex e).val = ((tw x b / 2 ^ ((e - ex).toNat + 1) : Nat) : Int) := by
      unfold lowW
      rw [W4.nat_val (ofN_ok _), ofN_nat (low_lt hx _ _)]
    have e256 : (2 : Nat) ^ 256 = 115792089237316195423570985008687907853269984665640564039457584007913129639936 := rfl
    have hw1 : w1.val = 1 := rfl
    have ko : decide (115792089237316195423570985008687907853269984665640564039457584007913129639936 ≤ (lowW x b ex e).val + w1.val) = true := decide_eq_true (by rw [hval, hw1]; omega)
    have h := fits_calls (tabY_ok conC_ok) (tm3 n b x ex e m) (okCons ko (okCons ka (okCons ka (okCons ka (okCons hup' (okCons kb (okCons kc (okCons rfl (okL1 kl))))))))) hv (by rfl) w
    rw [wrapI' ⟨by omega, by omega⟩] at h
    exact h
  · rw [hu] at hup
    unfold rsI at hup
    rw [if_neg hup] at hq
    omega
/-- what it asks; whether all bits fit is told ahead -/
def okTm (x : W4) (ex e : Int) : Bool := decide (x.ok ∧ -4000 ≤ ex ∧ ex ≤ 4000 ∧ -4000 ≤ e ∧ e ≤ 4000)
def gTm : Ans := fun vals s =>
  match vals with
  | [v, .int .i64 e, .int .i64 m] =>
    match n7 v, s with
    | some (n, ex, x, b), .inr (.inr (.inr (.inl true))) :: .inr (.inr (.inr (.inl d))) :: s' => some (tmR n e (ofN (toQ m n (tw x b) (ex - 1) e)) d, s', [(toL (tw x b) (ex - 1) e, d), (decide (toQ m n (tw x b) (ex - 1) e < 2 ^ 256), true), (okTm x ex e, true)])
    | some (n, ex, x, b), [.inr (.inr (.inr (.inl true)))] => some (tmR n e (ofN (toQ m n (tw x b) (ex - 1) e)) (toL (tw x b) (ex - 1) e), [], [(decide (toQ m n (tw x b) (ex - 1) e < 2 ^ 256), true), (okTm x ex e, true)])
    | some (n, ex, x, b), .inr (.inr (.inr (.inl false))) :: s' => some (tmR n (e + 1) w63 (toL (tw x b) (ex - 1) e), s', [(decide (toQ m n (tw x b) (ex - 1) e < 2 ^ 256), false), (decide (ex ≤ e), true), (okTm x ex e, true)])
    | _, _ => none
  | _ => none
theorem gTm_ok : AnsOk 22 gTm := by
  intro vals s v s' lg h hl w
  unfold gTm at h
  split at h
  · split at h
    · rename_i n ex x b d s2 hn
      cases h
      rw [okCs, okCs, okCs] at hl
      have h1 := of_decide_eq_true hl.2.2.1
      rw [n7_spec hn, ← hl.1]
      exact tm_calls n b x ex _ _ h1.1 h1.2.1 h1.2.2.1 h1.2.2.2.1 h1.2.2.2.2 (of_decide_eq_true hl.2.1) w
    · rename_i n ex x b hn
      cases h
      rw [okCs, okCs] at hl
      have h1 := of_decide_eq_true hl.2.1
      rw [n7_spec hn]
      exact tm_calls n b x ex _ _ h1.1 h1.2.1 h1.2.2.1 h1.2.2.2.1 h1.2.2.2.2 (of_decide_eq_true hl.1) w
    · rename_i n ex x b s2 hn
      cases h
      rw [okCs, okCs, okCs] at hl
      have h1 := of_decide_eq_true hl.2.2.1
      rw [n7_spec hn]
      exact tm_over n b x ex _ _ h1.1 h1.2.1 (of_decide_eq_true hl.2.1) h1.2.2.2.2 (of_decide_eq_false hl.1) w
    · cases h
  · cases h
def conT : Con := alt 22 gTm conC
theorem conT_ok : ConOk conT := alt_ok Try.func22 rfl gTm_ok conC_ok
/-! ### nearer -/
def clp (e : Int) : Int := if 2000 < (if -2000 > e then -2000 else e) then 2000 else (if -2000 > e then -2000 else e)
theorem clp_bd (e : Int) : -2000 ≤ clp e ∧ clp e ≤ 2000 := by unfold clp; split <;> split <;> omega
theorem nr_fits (n b : Bool) (x : W4) (e : Int) : Fits (reckon (tabOf Try.prog extY conN true) 300 20 [vN n e x b] []) (vN n (clp e) x b) [] := ⟨by kernel_rfl, by kernel_rfl, by kernel_rfl, by kernel_rfl⟩
def gNear : Ans := fun vals s =>
  match vals with
  | [v] =>
    match n7 v with
    | some (n, e, x, b) => some (vN n (clp e) x b, s, [])
    | none => none
  | _ => none
theorem gNear_ok : AnsOk 20 gNear := by
  intro vals s v s' lg h hl w
  unfold gNear at h
  split at h
  · split at h
    · rename_i n e x b hn
      cases h
      rw [n7_spec hn]
      exact fits_calls (tabY_ok conN_ok) (nr_fits n b x e) okNl (by rfl) (by rfl) w
    · cases h
  · cases h
/-! ### beyond -/
theorem by_t (n : Bool) (m : Int) : Fits (reckon (tabOf Try.prog extY conT true) 300 24 [.bool n, .int .i64 m] [tst true]) (.int .u64 9218868437227405312) [(upR m n true 3, true)] := ⟨by kernel_rfl, by kernel_rfl, by kernel_rfl, by kernel_rfl⟩
theorem by_f (n : Bool) (m : Int) : Fits (reckon (tabOf Try.prog extY conT true) 300 24 [.bool n, .int .i64 m] [tst false]) (.int .u64 9218868437227405311) [(upR m n true 3, false)] := ⟨by kernel_rfl, by kernel_rfl, by kernel_rfl, by kernel_rfl⟩
def gBey : Ans := fun vals s =>
  match vals with
  | [.bool n, .int .i64 m] => some (.int .u64 (bey m n), s, [])
  | _ => none
theorem gBey_ok : AnsOk 24 gBey := by
  intro vals s v s' lg h hl w
  unfold gBey at h
  split at h
  · rename_i n m
    cases h
    unfold bey
    by_cases hu : upR m n true 3 = true
    · rw [if_pos hu]
      exact fits_calls (tabY_ok conT_ok) (by_t n m) (okL1 hu) (by rfl) (by rfl) w
    · rw [if_neg hu]
      exact fits_calls (tabY_ok conT_ok) (by_f n m) (okL1 (by simpa using hu)) (by rfl) (by rfl) w
  · cases h
/-! ### isTiny -/
def m52 (k : Int) : Int := IntKind.i64.wrap (k - 52)
def tnQ (m : Int) (n : Bool) (x : W4) (b : Bool) (ex k : Int) : W4 := ofN (toQ m n (tw x b) (ex - 1) (m52 k))
def lgW (e : Int) (x : W4) : Int := IntKind.i64.wrap (IntKind.i64.wrap (e + lenI x) - 1)
theorem ti0 (n b : Bool) (x : W4) (ex k m : Int) : Fits (reckon (tabOf Try.prog extY conT true) 300 25 [vN n ex x b, .int .i64 k, .int .i64 m] [cmp true]) (.bool (decide (k < -1022))) [(k != -1023, true)] := ⟨by kernel_rfl, by kernel_rfl, by kernel_rfl, by kernel_rfl⟩
theorem ti1 (n b : Bool) (x : W4) (ex k m : Int) : Fits (reckon (tabOf Try.prog extY conT true) 300 25 [vN n ex x b, .int .i64 k, .int .i64 m] [cmp false, cmp true]) (.bool (decide (lgW (m52 k) (tnQ m n x b ex k) < -1022))) [(decide (tnQ m n x b ex k).ok, true), (decide (toQ m n (tw x b) (ex - 1) (m52 k) < 2 ^ 256), true), (okTm x ex (m52 k), true), (k != -1023, false)] := ⟨by kernel_rfl, by kernel_rfl, by kernel_rfl, by kernel_rfl⟩
def tnK (m : Int) (n : Bool) (T : Nat) (E k : Int) : Bool := if k = -1023 then decide (toQ m n T E (-1075) < 9007199254740992) else decide (k < -1022)
theorem lenI_nat (x : W4) : lenI x = (bitLen x.nat : Nat) := rfl
theorem len_lt53 {q : Nat} : bitLen q < 54 ↔ q < 9007199254740992 := by
  constructor
  · intro h
    have h1 := (bitLen_spec q).1
    have h2 := Nat.pow_le_pow_right (show 0 < 2 by omega) (show bitLen q ≤ 53 by omega)
    have e : (2 : Nat) ^ 53 = 9007199254740992 := rfl
    omega
  · intro h
    have := len_le (T := q) (k := 53) h
    omega
theorem tiny_calls (n b : Bool) (x : W4) (ex k m : Int) (h1 : x.ok ∧ -4000 ≤ ex ∧ ex ≤ 4000 ∧ -4000 ≤ (0 : Int) ∧ (0 : Int) ≤ 4000) (h2 : k = -1023 → toQ m n (tw x b) (ex - 1) (-1075) < 2 ^ 256) (w : World) : Calls Try.prog 25 #[vN n ex x b, .int .i64 k, .int .i64 m] w fun r w' => r = .returned (.bool (tnK m n (tw x b) (ex - 1) k)) ∧ Tidy w w' := by
  unfold tnK
  by_cases hk : k = -1023
  · rw [if_pos hk]
    have e0 : m52 k = -1075 := by rw [hk]; rfl
    have hq := h2 hk
    have hlen : bitLen (toQ m n (tw x b) (ex - 1) (-1075)) ≤ 256 := len_le hq
    have e1 : lgW (m52 k) (tnQ m n x b ex k) = -1076 + (bitLen (toQ m n (tw x b) (ex - 1) (-1075)) : Nat) := by
      unfold lgW tnQ
      rw [e0, lenI_nat, ofN_nat hq, wrapI' (n := -1075 + ((bitLen (toQ m n (tw x b) (ex - 1) (-1075)) : Nat) : Int)) ⟨by omega, by omega⟩, wrapI' ⟨by omega, by omega⟩]
      omega
    have h := fits_calls (tabY_ok conT_ok) (ti1 n b x ex k m) (okCons (decide_eq_true (ofN_ok _)) (okCons (by rw [e0]; exact decide_eq_true hq) (okCons (by rw [e0]; exact decide_eq_true ⟨h1.1, h1.2.1, h1.2.2.1, by omega, by omega⟩) (okL1 (by rw [hk]; rfl))))) (by rfl) (by rfl) w
    rw [e1] at h
    have e2 : decide (-1076 + ((bitLen (toQ m n (tw x b) (ex - 1) (-1075)) : Nat) : Int) < -1022) = decide (toQ m n (tw x b) (ex - 1) (-1075) < 9007199254740992) := by
      congr 1
      rw [← len_lt53]
      simp only [eq_iff_iff]
      omega
    rw [e2] at h
    exact h
  · rw [if_neg hk]
    exact fits_calls (tabY_ok conT_ok) (ti0 n b x ex k m) (okL1 (by simpa using hk)) (by rfl) (by rfl) w
def gTiny : Ans := fun vals s =>
  match vals with
  | [v, .int .i64 k, .int .i64 m] =>
    match n7 v, s with
    | some (n, ex, x, b), .inr (.inr (.inr (.inl d))) :: s' => some (.bool d, s', [(tnK m n (tw x b) (ex - 1) k, d), (decide (k = -1023 → toQ m n (tw x b) (ex - 1) (-1075) < 2 ^ 256), true), (okTm x ex 0, true)])
    | _, _ => none
  | _ => none
theorem gTiny_ok : AnsOk 25 gTiny := by
  intro vals s v s' lg h hl w
  unfold gTiny at h
  split at h
  · split at h
    · rename_i n ex x b d s2 hn
      cases h
      rw [okCs, okCs, okCs] at hl
      rw [n7_spec hn, ← hl.1]
      exact tiny_calls n b x ex _ _ (of_decide_eq_true hl.2.2.1) (of_decide_eq_true hl.2.1) w
    · cases h
  · cases h
def conTi : Con := alt 20 gNear (alt 24 gBey (alt 25 gTiny conT))
theorem conTi_ok : ConOk conTi := alt_ok Try.func20 rfl gNear_ok (alt_ok Try.func24 rfl gBey_ok (alt_ok Try.func25 rfl gTiny_ok conT_ok))
def lgR (ex : Int) (x : W4) : Int := lgW (clp ex) x
def e0 (ex : Int) (x : W4) : Int := if -1074 > m52 (lgR ex x) then -1074 else m52 (lgR ex x)
def qR (m : Int) (n : Bool) (x : W4) (b : Bool) (ex : Int) : Nat := toQ m n (tw x b) (clp ex - 1) (e0 ex x)
def oR (x : W4) (b : Bool) (ex : Int) : Bool := toL (tw x b) (clp ex - 1) (e0 ex x)
def pR (m : Int) (n : Bool) (x : W4) (b : Bool) (ex : Int) : Int := IntKind.u64.wrap (IntKind.u64.wrap (IntKind.u64.wrap (IntKind.i64.wrap (e0 ex x - -1074)) * 2 ^ min (Int.toNat 52) 64) + (ofN (qR m n x b ex)).a)
def sgR (n : Bool) (p : Int) : Int := match n with | true => bXor p 9223372036854775808 | false => p
def lTm (m : Int) (n : Bool) (x : W4) (b : Bool) (ex : Int) (o d : Bool) : Log := [(oR x b ex, o), (decide (qR m n x b ex < 2 ^ 256), true), (okTm x (clp ex) (e0 ex x), true), (decide x.ok, true), (eqW x ⟨0, 0, 0, 0⟩, d)]
def lBig (m : Int) (n : Bool) (x : W4) (b : Bool) (ex : Int) (d : Bool) : Bool × Bool := (decide (pR m n x b ex ≥ 9218868437227405312), d)
def l52 : Bool × Bool := (decide ((52 : Int) < 0), false)
def rdT (p f : Int) : Value := .tuple #[.int .u64 p, .int .u8 f]
theorem rd_zero (n : Bool) (x : W4) (ex m : Int) : Fits (reckon (tabOf Try.prog extY conTi true) 300 16 [vN n ex x false, .int .i64 m] [sam true]) (rdT (sgR n 0) 0) [(eqW x ⟨0, 0, 0, 0⟩, true)] := by
  cases n <;> exact ⟨by kernel_rfl, by kernel_rfl, by kernel_rfl, by kernel_rfl⟩
theorem rd_big (n b o : Bool) (x : W4) (ex m : Int) : Fits (reckon (tabOf Try.prog extY conTi true) 300 16 [vN n ex x b, .int .i64 m] [sam false, cmp true, cmp o, cmp true]) (rdT (sgR n (bey m n)) 20) (lBig m n x b ex true :: l52 :: lTm m n x b ex o false) := by
  cases n <;> cases o <;> exact ⟨by kernel_rfl, by kernel_rfl, by kernel_rfl, by kernel_rfl⟩
theorem rd_big' (n o : Bool) (x : W4) (ex m : Int) : Fits (reckon (tabOf Try.prog extY conTi true) 300 16 [vN n ex x true, .int .i64 m] [sam true, cmp true, cmp o, cmp true]) (rdT (sgR n (bey m n)) 20) (lBig m n x true ex true :: l52 :: lTm m n x true ex o true) := by
  cases n <;> cases o <;> exact ⟨by kernel_rfl, by kernel_rfl, by kernel_rfl, by kernel_rfl⟩
theorem rd_just (n b : Bool) (x : W4) (ex m : Int) : Fits (reckon (tabOf Try.prog extY conTi true) 300 16 [vN n ex x b, .int .i64 m] [sam false, cmp true, cmp false, cmp false]) (rdT (sgR n (pR m n x b ex)) 0) (lBig m n x b ex false :: l52 :: lTm m n x b ex false false) := by
  cases n <;> exact ⟨by kernel_rfl, by kernel_rfl, by kernel_rfl, by kernel_rfl⟩
theorem rd_just' (n : Bool) (x : W4) (ex m : Int) : Fits (reckon (tabOf Try.prog extY conTi true) 300 16 [vN n ex x true, .int .i64 m] [sam true, cmp true, cmp false, cmp false]) (rdT (sgR n (pR m n x true ex)) 0) (lBig m n x true ex false :: l52 :: lTm m n x true ex false true) := by
  cases n <;> exact ⟨by kernel_rfl, by kernel_rfl, by kernel_rfl, by kernel_rfl⟩
def fgT (t : Bool) : Int := match t with | true => 24 | false => 16
def lTn (m : Int) (n : Bool) (x : W4) (b : Bool) (ex : Int) (t : Bool) (l : Log) : Log := (tnK m n (tw x b) (clp ex - 1) (lgR ex x), t) :: (decide (lgR ex x = -1023 → toQ m n (tw x b) (clp ex - 1) (-1075) < 2 ^ 256), true) :: (okTm x (clp ex) 0, true) :: l
theorem rd_near (n b t : Bool) (x : W4) (ex m : Int) : Fits (reckon (tabOf Try.prog extY conTi true) 300 16 [vN n ex x b, .int .i64 m] [sam false, cmp true, cmp true, cmp false, cmp t]) (rdT (sgR n (pR m n x b ex)) (fgT t)) (lTn m n x b ex t (lBig m n x b ex false :: l52 :: lTm m n x b ex true false)) := by
  cases n <;> cases t <;> exact ⟨by kernel_rfl, by kernel_rfl, by kernel_rfl, by kernel_rfl⟩
theorem rd_near' (n t : Bool) (x : W4) (ex m : Int) : Fits (reckon (tabOf Try.prog extY conTi true) 300 16 [vN n ex x true, .int .i64 m] [sam true, cmp true, cmp true, cmp false, cmp t]) (rdT (sgR n (pR m n x true ex)) (fgT t)) (lTn m n x true ex t (lBig m n x true ex false :: l52 :: lTm m n x true ex true true)) := by
  cases n <;> cases t <;> exact ⟨by kernel_rfl, by kernel_rfl, by kernel_rfl, by kernel_rfl⟩
/-! ### its numbers -/
theorem tw_len {x : W4} {b : Bool} (h : tw x b ≠ 0) : bitLen (tw x b) = bitLen x.nat + 1 := by
  have hd : tw x b / 2 ^ 1 = x.nat := by
    have := tw_div x b 0
    simpa using this
  by_cases h0 : x.nat = 0
  · have : tw x b = 1 := by
      have e : tw x b / 2 = x.nat := by simpa using hd
      omega
    rw [this, h0]
    rfl
  · rw [bitLen_shift (tw x b) 1 (by rw [hd]; exact h0), hd]
    omega
theorem len256 {x : W4} (hx : x.ok) : bitLen x.nat ≤ 256 := len_le (W4.nat_lt hx)
theorem lgR_eq {x : W4} {b : Bool} {ex : Int} (hx : x.ok) (h : tw x b ≠ 0) : lgR ex x = lgN (tw x b) (clp ex - 1) := by
  have h1 := clp_bd ex
  have h2 := len256 hx
  unfold lgR lgW lgN
  rw [lenI_nat, tw_len h, wrapI' (n := clp ex + ((bitLen x.nat : Nat) : Int)) ⟨by omega, by omega⟩, wrapI' ⟨by omega, by omega⟩]
  omega
theorem lgN_bd {x : W4} {b : Bool} {ex : Int} (hx : x.ok) (h : tw x b ≠ 0) : -2002 ≤ lgN (tw x b) (clp ex - 1) ∧ lgN (tw x b) (clp ex - 1) ≤ 2300 := by
  have h1 := clp_bd ex
  have h2 := len256 hx
  unfold lgN
  rw [tw_len h]
  omega
theorem e0_eq {x : W4} {b : Bool} {ex : Int} (hx : x.ok) (h : tw x b ≠ 0) : e0 ex x = lowE (tw x b) (clp ex - 1) := by
  have hb := lgN_bd (ex := ex) hx h
  unfold e0 m52 lowE
  rw [lgR_eq hx h, wrapI' ⟨by omega, by omega⟩]
  split <;> split <;> omega
theorem lowE_bd {x : W4} {b : Bool} {ex : Int} (hx : x.ok) (h : tw x b ≠ 0) : -1074 ≤ lowE (tw x b) (clp ex - 1) ∧ lowE (tw x b) (clp ex - 1) ≤ 2300 := by
  have hb := lgN_bd (ex := ex) hx h
  unfold lowE
  split <;> omega
theorem ofN_a {q : Nat} (h : q < 18446744073709551616) : (ofN q).a = (q : Int) := by unfold ofN W4.of; dsimp only; omega
theorem pR_eq {m : Int} {n : Bool} {x : W4} {b : Bool} {ex : Int} (hx : x.ok) (h : tw x b ≠ 0) : pR m n x b ex = p0 m n (tw x b) (clp ex - 1) ∧ p0 m n (tw x b) (clp ex - 1) < 18446744073709551616 := by
  have hb := lowE_bd (ex := ex) hx h
  have hq := low_hi m n (tw x b) (clp ex - 1)
  have e1 : ((2 : Int) ^ min (Int.toNat 52) 64) = 4503599627370496 := by rfl
  unfold pR qR p0
  rw [e0_eq hx h, ofN_a (by omega), e1, wrapI' ⟨by omega, by omega⟩, wrapU' (n := lowE (tw x b) (clp ex - 1) - -1074) ⟨by omega, by omega⟩, wrapU' (n := (lowE (tw x b) (clp ex - 1) - -1074) * 4503599627370496) ⟨by omega, by omega⟩, wrapU' ⟨by omega, by omega⟩]
  omega
def sS (n : Bool) (p : Int) : Int := if n = true then 9223372036854775808 + p else p
theorem sgR_eq {n : Bool} {p : Int} (h0 : 0 ≤ p) (h1 : p ≤ 9218868437227405312) : sgR n p = sS n p := by
  cases n
  · rfl
  · simp only [sgR, sS, if_true]
    rw [bXor_sign ⟨by omega, by omega⟩]
    omega
theorem tnK_eq (m : Int) (n : Bool) (T : Nat) (E : Int) : tnK m n T E (lgN T E) = tiny m n T E := rfl
/-- what Round answers -/
def rdV (m : Int) (n : Bool) (T : Nat) (E : Int) : Value := rdT (sS n (rnP m n T E)) (rnF m n T E)
theorem round_calls (n b : Bool) (x : W4) (ex m : Int) (hx : x.ok) (w : World) : Calls Try.prog 16 #[vN n ex x b, .int .i64 m] w fun r w' => r = .returned (rdV m n (tw x b) (clp ex - 1)) ∧ Tidy w w' := by
  have hv : ([vN n ex x b, .int .i64 m].all (lt 0)) = true := rfl
  unfold rdV
  by_cases hz : tw x b = 0
  · have h1 := (tw_zero hx).1 hz
    rw [Bool.and_eq_true] at h1
    have hb : b = false := by simpa using h1.2
    subst hb
    have h := fits_calls (tabY_ok conTi_ok) (rd_zero n x ex m) (okL1 h1.1) hv (by rfl) w
    rw [sgR_eq (by omega) (by omega)] at h
    unfold rnP rnF
    rw [if_pos hz, if_pos hz]
    exact h
  · obtain ⟨ep, hp⟩ := pR_eq (m := m) (n := n) (ex := ex) hx hz
    have hbd := clp_bd ex
    have hel := lowE_bd (ex := ex) hx hz
    have hq := low_hi m n (tw x b) (clp ex - 1)
    have ee := e0_eq (ex := ex) hx hz
    have el := lgR_eq (ex := ex) hx hz
    have hp0 := p0_nonneg m n (tw x b) (clp ex - 1)
    have e256 : (2 : Nat) ^ 256 = 115792089237316195423570985008687907853269984665640564039457584007913129639936 := rfl
    have kq : decide (qR m n x b ex < 2 ^ 256) = true := decide_eq_true (by unfold qR; rw [ee]; omega)
    have kt : okTm x (clp ex) (e0 ex x) = true := decide_eq_true ⟨hx, by omega, by omega, by omega, by omega⟩
    have kt0 : okTm x (clp ex) 0 = true := decide_eq_true ⟨hx, by omega, by omega, by omega, by omega⟩
    have kx : decide x.ok = true := decide_eq_true hx
    have ko : oR x b ex = toL (tw x b) (clp ex - 1) (lowE (tw x b) (clp ex - 1)) := by unfold oR; rw [ee]
    have kn : decide (lgR ex x = -1023 → toQ m n (tw x b) (clp ex - 1) (-1075) < 2 ^ 256) = true := decide_eq_true fun hl => by
      rw [el] at hl
      have : toQ m n (tw x b) (clp ex - 1) (-1075) ≤ 2 ^ 53 := toQ_le (by unfold lgN at hl; omega)
      have e53 : (2 : Nat) ^ 53 = 9007199254740992 := rfl
      omega
    have key : ∃ d, eqW x ⟨0, 0, 0, 0⟩ = d ∧ (d = false ∨ (d = true ∧ b = true)) := by
      refine ⟨_, rfl, ?_⟩
      cases he : eqW x ⟨0, 0, 0, 0⟩
      · exact .inl rfl
      · right
        refine ⟨rfl, ?_⟩
        cases hb : b
        · exact absurd ((tw_zero hx).2 (by rw [he, hb]; rfl)) hz
        · rfl
    obtain ⟨d, hd, hdb⟩ := key
    have lt5 : ∀ o, oR x b ex = o → okLog (lTm m n x b ex o d) := fun o ho => okCons ho (okCons kq (okCons kt (okCons kx (okL1 hd))))
    unfold rnP rnF
    rw [if_neg hz, if_neg hz]
    by_cases hbig : 9218868437227405312 ≤ p0 m n (tw x b) (clp ex - 1)
    · rw [if_pos hbig, if_pos hbig]
      have hb2 := bey_or m n
      have hs : sgR n (bey m n) = sS n (bey m n) := sgR_eq (by omega) (by omega)
      rw [← hs]
      have lB : decide (pR m n x b ex ≥ 9218868437227405312) = true := decide_eq_true (by rw [ep]; exact hbig)
      rcases hdb with rfl | ⟨rfl, rfl⟩
      · exact fits_calls (tabY_ok conTi_ok) (rd_big n b (oR x b ex) x ex m) (okCons lB (okCons rfl (lt5 _ rfl))) hv (by rfl) w
      · exact fits_calls (tabY_ok conTi_ok) (rd_big' n (oR x true ex) x ex m) (okCons lB (okCons rfl (lt5 _ rfl))) hv (by rfl) w
    · rw [if_neg hbig, if_neg hbig]
      have hs : sgR n (pR m n x b ex) = sS n (p0 m n (tw x b) (clp ex - 1)) := by rw [ep]; exact sgR_eq hp0 (by omega)
      rw [← hs]
      have lB : decide (pR m n x b ex ≥ 9218868437227405312) = false := decide_eq_false (by rw [ep]; exact hbig)
      by_cases hl : toL (tw x b) (clp ex - 1) (lowE (tw x b) (clp ex - 1)) = true
      · rw [if_pos hl]
        have ht : tnK m n (tw x b) (clp ex - 1) (lgR ex x) = tiny m n (tw x b) (clp ex - 1) := by rw [el, tnK_eq]
        have ef : (if tiny m n (tw x b) (clp ex - 1) = true then (24 : Int) else 16) = fgT (tiny m n (tw x b) (clp ex - 1)) := by
          cases tiny m n (tw x b) (clp ex - 1) <;> rfl
        rw [ef]
        rcases hdb with rfl | ⟨rfl, rfl⟩
        · exact fits_calls (tabY_ok conTi_ok) (rd_near n b (tiny m n (tw x b) (clp ex - 1)) x ex m) (okCons ht (okCons kn (okCons kt0 (okCons lB (okCons rfl (lt5 _ (ko.trans hl))))))) hv (by rfl) w
        · exact fits_calls (tabY_ok conTi_ok) (rd_near' n (tiny m n (tw x true) (clp ex - 1)) x ex m) (okCons ht (okCons kn (okCons kt0 (okCons lB (okCons rfl (lt5 _ (ko.trans hl))))))) hv (by rfl) w
      · rw [if_neg hl]
        have hl' := ko.trans (by simpa using hl)
        rcases hdb with rfl | ⟨rfl, rfl⟩
        · exact fits_calls (tabY_ok conTi_ok) (rd_just n b x ex m) (okCons lB (okCons rfl (lt5 _ hl'))) hv (by rfl) w
        · exact fits_calls (tabY_ok conTi_ok) (rd_just' n x ex m) (okCons lB (okCons rfl (lt5 _ hl'))) hv (by rfl) w
def gRd : Ans := fun vals s =>
  match vals with
  | [v, .int .i64 m] =>
    match n7 v with
    | some (n, ex, x, b) => some (rdV m n (tw x b) (clp ex - 1), s, [(decide x.ok, true)])
    | none => none
  | _ => none
theorem gRd_ok : AnsOk 16 gRd := by
  intro vals s v s' lg h hl w
  unfold gRd at h
  split at h
  · split at h
    · rename_i n ex x b hn
      cases h
      rw [n7_spec hn]
      exact round_calls n b x ex _ (of_decide_eq_true (hl _ (List.mem_singleton.2 rfl))) w
    · cases h
  · cases h
/-! ### sure -/
end Go.Proofs.Ytdlpffgekmidnab
namespace Go.Tu
open Go.Fx
/-- half a turn, cut -/
def piP : Nat := 0x03243f6a8885a308d313198a2e03707344a4093822299f31d0082efa98ec4e6c
/-- the angle of k parts of n -/
def angN (k n : Nat) : Nat := 2 * k * uP / n * piP / uP
/-- the lower bound of the cosine of k parts of n, a quarter of a turn at most -/
def lowC (k n : Nat) : Nat := if 8 * k ≤ n then lo32 (cS uP 29 (angN k n)) else lo32 (sS uP 29 (angN (n / 4 - k) n))
def foldK (k n : Nat) : Nat := if n / 2 < k then n - k else k
def foldS (k n : Nat) : Bool := decide (n / 4 < foldK k n)
def foldQ (k n : Nat) : Nat := if n / 4 < foldK k n then n / 2 - foldK k n else foldK k n
def rnd16 (s : Bool) (L : Nat) : Int := (if s = true then 9223372036854775808 else 0) + Go.Rn.rnP 0 s (2 * L) (-249)
/-- the pattern of the cosine of k parts of n: n a multiple of 4, k below n -/
def patC (k n : Nat) : Int := rnd16 (foldS k n) (lowC (foldQ k n) n)
/-- of any k -/
def cosT (k n : Nat) : Int := patC (4 * (k % n)) (4 * n)
def sinT (k n : Nat) : Int := patC ((4 * (k % n) + 3 * n) % (4 * n)) (4 * n)
/-! ### the same parts told in other numbers -/
theorem angN_scale {c : Nat} (hc : 0 < c) (k n : Nat) : angN (c * k) (c * n) = angN k n := by
  unfold angN
  rw [show 2 * (c * k) * uP = c * (2 * k * uP) by rw [← Nat.mul_assoc, Nat.mul_comm 2 c, Nat.mul_assoc c, Nat.mul_assoc c], Nat.mul_div_mul_left _ _ hc]
theorem four {c n : Nat} (h : n % 4 = 0) : c * n / 4 = c * (n / 4) ∧ c * n / 2 = c * (n / 2) := by
  obtain ⟨q, rfl⟩ : ∃ q, n = 4 * q := ⟨n / 4, by omega⟩
  have e1 : 4 * q / 4 = q := by omega
  have e2 : 4 * q / 2 = 2 * q := by omega
  rw [e1, e2]
  constructor
  · rw [show c * (4 * q) = 4 * (c * q) by rw [← Nat.mul_assoc, Nat.mul_comm c 4, Nat.mul_assoc]]
    omega
  · rw [show c * (4 * q) = 4 * (c * q) by rw [← Nat.mul_assoc, Nat.mul_comm c 4, Nat.mul_assoc], show c * (2 * q) = 2 * (c * q) by rw [← Nat.mul_assoc, Nat.mul_comm c 2, Nat.mul_assoc]]
    omega
theorem lt_scale {c : Nat} (hc : 0 < c) (a b : Nat) : c * a < c * b ↔ a < b := Nat.mul_lt_mul_left hc
theorem le_scale {c : Nat} (hc : 0 < c) (a b : Nat) : c * a ≤ c * b ↔ a ≤ b := Nat.mul_le_mul_left_iff hc
theorem lowC_scale {c : Nat} (hc : 0 < c) {n : Nat} (h : n % 4 = 0) (k : Nat) : lowC (c * k) (c * n) = lowC k n := by
  unfold lowC
  rw [(four h).1, ← Nat.mul_sub, angN_scale hc, angN_scale hc, show 8 * (c * k) = c * (8 * k) by rw [← Nat.mul_assoc, Nat.mul_comm 8 c, Nat.mul_assoc]]
  by_cases g : 8 * k ≤ n
  · rw [if_pos g, if_pos ((le_scale hc _ _).2 g)]
  · rw [if_neg g, if_neg (fun x => g ((le_scale hc _ _).1 x))]
theorem foldK_scale {c : Nat} (hc : 0 < c) {n : Nat} (h : n % 4 = 0) (k : Nat) : foldK (c * k) (c * n) = c * foldK k n := by
  unfold foldK
  rw [(four h).2]
  by_cases g : n / 2 < k
  · rw [if_pos g, if_pos ((lt_scale hc _ _).2 g), Nat.mul_sub]
  · rw [if_neg g, if_neg (fun x => g ((lt_scale hc _ _).1 x))]
theorem patC_scale {c : Nat} (hc : 0 < c) {n : Nat} (h : n % 4 = 0) (k : Nat) : patC (c * k) (c * n) = patC k n := by
  unfold patC foldS foldQ
  rw [foldK_scale hc h, (four h).1, (four h).2]
  by_cases g : n / 4 < foldK k n
  · rw [if_pos g, if_pos ((lt_scale hc _ _).2 g), decide_eq_true g, decide_eq_true ((lt_scale hc _ _).2 g), ← Nat.mul_sub, lowC_scale hc h]
  · rw [if_neg g, if_neg (fun x => g ((lt_scale hc _ _).1 x)), decide_eq_false g, decide_eq_false (fun x => g ((lt_scale hc _ _).1 x)), lowC_scale hc h]
/-! ### the other side of the circle -/
/-- -k -/
theorem patC_even {n k : Nat} (h : n % 4 = 0) (hk : k < n) : patC ((n - k) % n) n = patC k n := by
  have e : foldK ((n - k) % n) n = foldK k n := by
    unfold foldK
    by_cases k0 : k = 0
    · subst k0
      rw [Nat.sub_zero, Nat.mod_self, if_neg (by omega), if_neg (by omega)]
    · rw [Nat.mod_eq_of_lt (show n - k < n by omega)]
      split <;> split <;> omega
  unfold patC foldS foldQ
  rw [e]
/-- half a turn more: where the cosine is 0 it is 0 again, else with the other sign -/
theorem fold_half {n k : Nat} (h : n % 4 = 0) (hk : k < n) : foldQ ((k + n / 2) % n) n = foldQ k n ∧ (foldQ k n = n / 4 ∨ foldS ((k + n / 2) % n) n = !foldS k n) ∧ foldQ k n ≤ n / 4 ∧ (foldQ k n = n / 4 → foldS k n = false ∧ foldS ((k + n / 2) % n) n = false) := by
  obtain ⟨q, rfl⟩ : ∃ q, n = 4 * q := ⟨n / 4, by omega⟩
  have e1 : 4 * q / 4 = q := by omega
  have e2 : 4 * q / 2 = 2 * q := by omega
  have key : ∀ j, j < 4 * q → (foldQ j (4 * q) = if j ≤ q then j else if j < 2 * q then 2 * q - j else if j < 3 * q then j - 2 * q else 4 * q - j) ∧ (foldS j (4 * q) = decide (q < j ∧ j < 3 * q)) := by
    intro j hj
    unfold foldQ foldS foldK
    rw [e1, e2]
    by_cases g : 2 * q < j
    · rw [if_pos g]
      refine ⟨by (repeat' split) <;> omega, decide_eq_decide.2 ⟨fun _ => by omega, fun _ => by omega⟩⟩
    · rw [if_neg g]
      refine ⟨by (repeat' split) <;> omega, decide_eq_decide.2 ⟨fun _ => by omega, fun _ => by omega⟩⟩
  have hm : (k + 2 * q) % (4 * q) < 4 * q := Nat.mod_lt _ (by omega)
  have hv : (k + 2 * q) % (4 * q) = if k < 2 * q then k + 2 * q else k - 2 * q := by
    split
    · exact Nat.mod_eq_of_lt (by omega)
    · rw [show k + 2 * q = (k - 2 * q) + 4 * q by omega, Nat.add_mod_right, Nat.mod_eq_of_lt (by omega)]
  rw [e1, e2]
  obtain ⟨a1, a2⟩ := key k hk
  obtain ⟨b1, b2⟩ := key _ hm
  rw [hv] at b1 b2
  rw [hv, a1, a2, b1, b2]
  clear a1 a2 b1 b2 key hv hm e1 e2 h
  by_cases g1 : k < 2 * q
  · rw [if_pos g1]
    by_cases g2 : k < q
    · rw [if_neg (show ¬ k + 2 * q ≤ q by omega), if_neg (show ¬ k + 2 * q < 2 * q by omega), if_pos (show k + 2 * q < 3 * q by omega), if_pos (show k ≤ q by omega), decide_eq_true (show q < k + 2 * q ∧ k + 2 * q < 3 * q by omega), decide_eq_false (show ¬ (q < k ∧ k < 3 * q) by omega)]
      exact ⟨by omega, .inr rfl, by omega, by omega⟩
    · rw [if_neg (show ¬ k + 2 * q ≤ q by omega), if_neg (show ¬ k + 2 * q < 2 * q by omega), if_neg (show ¬ k + 2 * q < 3 * q by omega), decide_eq_false (show ¬ (q < k + 2 * q ∧ k + 2 * q < 3 * q) by omega)]
      by_cases g3 : k = q
      · rw [if_pos (show k ≤ q by omega), decide_eq_false (show ¬ (q < k ∧ k < 3 * q) by omega)]
        exact ⟨by omega, .inl g3, by omega, fun _ => ⟨rfl, rfl⟩⟩
      · rw [if_neg (show ¬ k ≤ q by omega), if_pos g1, decide_eq_true (show q < k ∧ k < 3 * q by omega)]
        exact ⟨by omega, .inr rfl, by omega, by omega⟩
  · rw [if_neg g1, if_neg (show ¬ k ≤ q by omega), if_neg g1]
    by_cases g2 : k < 3 * q
    · rw [if_pos g2, if_pos (show k - 2 * q ≤ q by omega), decide_eq_false (show ¬ (q < k - 2 * q ∧ k - 2 * q < 3 * q) by omega), decide_eq_true (show q < k ∧ k < 3 * q by omega)]
      exact ⟨rfl, .inr rfl, by omega, by omega⟩
    · rw [if_neg g2, decide_eq_false (show ¬ (q < k ∧ k < 3 * q) by omega)]
      by_cases g3 : k = 3 * q
      · rw [if_pos (show k - 2 * q ≤ q by omega), decide_eq_false (show ¬ (q < k - 2 * q ∧ k - 2 * q < 3 * q) by omega)]
        exact ⟨by omega, .inl (by omega), by omega, fun _ => ⟨rfl, rfl⟩⟩
      · rw [if_neg (show ¬ k - 2 * q ≤ q by omega), if_pos (show k - 2 * q < 2 * q by omega), decide_eq_true (show q < k - 2 * q ∧ k - 2 * q < 3 * q by omega)]
        exact ⟨by omega, .inr rfl, by omega, by omega⟩
/-! ### how great -/
/-- a sum with signs by turns is at least its first term less its second one -/
theorem sr_low {U s f n0 : Nat} (hU : 0 < U) (hs : s ≤ U) : ∀ n, (n % 2 = 0 → (f : Int) - tm U s f n0 1 ≤ sr U s f n0 (n + 2)) ∧ (n % 2 = 1 → (f : Int) - tm U s f n0 1 + tm U s f n0 (n + 1) ≤ sr U s f n0 (n + 2))
  | 0 => by
    refine ⟨fun _ => ?_, fun h => by omega⟩
    have e : sr U s f n0 2 = ((0 : Int) + (f : Nat)) - tm U s f n0 1 := rfl
    rw [e]
    omega
  | n + 1 => by
    have h := sr_low (f := f) (n0 := n0) hU hs n
    have d : tm U s f n0 (n + 2) ≤ tm U s f n0 (n + 1) := tm_less hU hs (n + 1)
    have e : sr U s f n0 (n + 1 + 2) = if (n + 2) % 2 = 0 then sr U s f n0 (n + 2) + tm U s f n0 (n + 2) else sr U s f n0 (n + 2) - tm U s f n0 (n + 2) := rfl
    rw [e]
    constructor
    · intro g
      have := h.2 (by omega)
      rw [if_neg (by omega)]
      omega
    · intro g
      have := h.1 (by omega)
      rw [if_pos (by omega)]
      show _ + ((tm U s f n0 (n + 2) : Nat) : Int) ≤ _
      omega
theorem sS_low {x : Nat} (hx : x ≤ uP) : 5 * (x : Int) ≤ 6 * sS uP 29 x := by
  have h : (x : Int) - tm uP (x * x / uP) x 2 1 + tm uP (x * x / uP) x 2 28 ≤ sr uP (x * x / uP) x 2 29 := (sr_low (f := x) (n0 := 2) uP_pos (Go.Fx.sq_le uP_pos hx) 27).2 rfl
  have e : tm uP (x * x / uP) x 2 1 = x * (x * x / uP) / uP / 6 := rfl
  have d : x * (x * x / uP) / uP ≤ x := by
    have := Nat.div_le_div_right (c := uP) (Nat.mul_le_mul_left x (Go.Fx.sq_le uP_pos hx))
    rwa [Nat.mul_div_cancel _ uP_pos] at this
  unfold sS
  rw [e] at h
  omega
theorem piP_bd : 3 * uP ≤ piP ∧ piP ≤ 4 * uP := by decide +kernel
/-- an eighth of a turn at most is below 1 -/
theorem angN_le {k n : Nat} (h : 8 * k ≤ n) : angN k n ≤ uP := by
  have hq : 2 * k * uP / n ≤ uP / 4 := by
    rcases Nat.eq_zero_or_pos n with h0 | h0
    · rw [h0, Nat.div_zero]
      exact Nat.zero_le _
    · refine Nat.div_le_of_le_mul ?_
      have e : uP = 4 * (uP / 4) := by decide +kernel
      have := Nat.mul_le_mul_right (uP / 4) h
      rw [e]
      generalize uP / 4 = u at *
      have e1 : 2 * k * (4 * u) = 8 * k * u := by rw [← Nat.mul_assoc, Nat.mul_comm (2 * k) 4, ← Nat.mul_assoc]
      rw [e1]
      have e2 : 4 * u / 4 = u := by omega
      rw [e2]
      exact this
  unfold angN
  refine Nat.div_le_of_le_mul ?_
  refine Nat.le_trans (Nat.mul_le_mul hq piP_bd.2) ?_
  decide +kernel
theorem angN_ge {k n : Nat} (hk : 1 ≤ k) (hn : n ≤ 268435456) (h0 : 0 < n) : 2 ^ 200 ≤ angN k n := by
  have hq : 2 ^ 220 ≤ 2 * k * uP / n := by
    refine (Nat.le_div_iff_mul_le h0).2 ?_
    have h1 := Nat.mul_le_mul_right uP (show 2 ≤ 2 * k by omega)
    have h2 := Nat.mul_le_mul_left (2 ^ 220) hn
    have h3 : 2 ^ 220 * 268435456 ≤ 2 * uP := by decide +kernel
    omega
  unfold angN
  refine (Nat.le_div_iff_mul_le uP_pos).2 ?_
  have h1 := Nat.mul_le_mul hq piP_bd.1
  have h2 : 2 ^ 200 * uP ≤ 2 ^ 220 * (3 * uP) := by decide +kernel
  omega
theorem lowC_le {k n : Nat} (hk : k ≤ n / 4) : lowC k n ≤ uP := by
  unfold lowC
  by_cases g : 8 * k ≤ n
  · rw [if_pos g]
    have := cS_bd uP_pos (angN_le g) 29
    unfold lo32
    omega
  · rw [if_neg g]
    have h := angN_le (show 8 * (n / 4 - k) ≤ n by omega)
    have := sS_bd uP_pos h 29
    unfold lo32
    omega
theorem lowC_pos {k n : Nat} (hk : k < n / 4) (hn : n ≤ 268435456) : 0 < lowC k n := by
  unfold lowC
  by_cases g : 8 * k ≤ n
  · rw [if_pos g]
    have h := Go.Fx.cos_big (angN_le g)
    have u : (128 : Int) ≤ uP := by decide +kernel
    unfold lo32
    omega
  · rw [if_neg g]
    have h := sS_low (angN_le (show 8 * (n / 4 - k) ≤ n by omega))
    have l := angN_ge (show 1 ≤ n / 4 - k by omega) hn (by omega)
    have e : (2 : Nat) ^ 200 = 1606938044258990275541962092341162602522202993782792835301376 := by rfl
    rw [e] at l
    unfold lo32
    omega
theorem lowC_zero (n : Nat) : lowC (n / 4) n = lo32 (sS uP 29 0) ∨ 8 * (n / 4) ≤ n := by
  unfold lowC
  by_cases g : 8 * (n / 4) ≤ n
  · exact .inr g
  · left
    rw [if_neg g, Nat.sub_self]
    have : angN 0 n = 0 := by
      unfold angN
      rw [Nat.mul_zero, Nat.zero_mul, Nat.zero_div, Nat.zero_mul, Nat.zero_div]
    rw [this]
theorem low_none : lo32 (sS uP 29 0) = 0 := by decide +kernel
/-- the pattern: its size -/
theorem rn_one {L : Nat} (h : L ≤ uP) (s : Bool) : 0 ≤ Go.Rn.rnP 0 s (2 * L) (-249) ∧ Go.Rn.rnP 0 s (2 * L) (-249) ≤ 4607182418800017408 := by
  have hb := Go.Rn.rnP_bd 0 s (2 * L) (-249)
  have hm := Go.Rn.rnP_mono (m := 0) (neg := s) (E := -249) (show 2 * L ≤ 2 * uP by omega)
  have e : Go.Rn.rnP 0 s (2 * uP) (-249) = 4607182418800017408 := by cases s <;> decide +kernel
  rw [e] at hm
  exact ⟨hb.1, hm⟩
theorem rn_pos {L : Nat} (h : 0 < L) (s : Bool) : 0 < Go.Rn.rnP 0 s (2 * L) (-249) := by
  have hm := Go.Rn.rnP_mono (m := 0) (neg := s) (E := -249) (show 2 * 1 ≤ 2 * L by omega)
  have e : 0 < Go.Rn.rnP 0 s (2 * 1) (-249) := by cases s <;> decide +kernel
  omega
theorem rn_sg (s t : Bool) (L : Nat) : Go.Rn.rnP 0 s (2 * L) (-249) = Go.Rn.rnP 0 t (2 * L) (-249) := by
  have h := Go.Rn.rnP_swM 0 false (2 * L) (-249)
  cases s <;> cases t <;> first | rfl | exact h | exact h.symm
/-- with the other sign, but 0 -/
def flip (p : Int) : Int := if p = 0 then 0 else if p < 9223372036854775808 then p + 9223372036854775808 else p - 9223372036854775808
/-- the cosine's size -/
theorem patC_size {n k : Nat} (h : n % 4 = 0) (hk : k < n) : 0 ≤ patC k n ∧ patC k n < 18446744073709551616 ∧ (patC k n < 9223372036854775808 → patC k n ≤ 4607182418800017408) ∧ (9223372036854775808 ≤ patC k n → patC k n - 9223372036854775808 ≤ 4607182418800017408) := by
  have r := rn_one (lowC_le (fold_half h hk).2.2.1) (foldS k n)
  unfold patC rnd16
  split <;> omega
theorem patC_half {n k : Nat} (h : n % 4 = 0) (hk : k < n) (hn : n ≤ 268435456) : patC ((k + n / 2) % n) n = flip (patC k n) := by
  obtain ⟨h1, h2, h3, h4⟩ := fold_half h hk
  have r := rn_one (lowC_le h3) (foldS k n)
  unfold patC
  rw [h1]
  by_cases c : foldQ k n = n / 4
  · obtain ⟨e1, e2⟩ := h4 c
    rw [e1, e2, c]
    have z : lowC (n / 4) n = 0 := by
      rcases lowC_zero n with g | g
      · rw [g, low_none]
      · omega
    rw [z]
    rfl
  · rcases h2 with g | g
    · exact absurd g c
    · have p := rn_pos (lowC_pos (show foldQ k n < n / 4 by omega) hn) (foldS k n)
      rw [g]
      unfold rnd16
      rw [rn_sg (!foldS k n) (foldS k n)]
      generalize Go.Rn.rnP 0 (foldS k n) (2 * lowC (foldQ k n) n) (-249) = v at *
      unfold flip
      cases foldS k n
      · simp only [Bool.not_false, if_true, Bool.false_eq_true, if_false]
        rw [if_neg (by omega), if_pos (by omega)]
        omega
      · simp only [Bool.not_true, if_true, Bool.false_eq_true, if_false]
        rw [if_neg (by omega), if_neg (by omega)]
        omega
/-! ### what is the same of a circle -/
/-- of any k -/
def patT (k n : Nat) : Int := patC (k % n) n
theorem patT_add (k n : Nat) : patT (k + n) n = patT k n := by
  unfold patT
  rw [Nat.add_mod_right]
theorem patT_half {n k : Nat} (h : n % 4 = 0) (h0 : 0 < n) (hn : n ≤ 268435456) : patT (k + n / 2) n = flip (patT k n) := by
  unfold patT
  rw [← patC_half h (Nat.mod_lt k h0) hn, Nat.mod_add_mod]
theorem patT_even {n k j : Nat} (h : n % 4 = 0) (h0 : 0 < n) (e : (j + k) % n = 0) : patT j n = patT k n := by
  unfold patT
  rw [← patC_even h (Nat.mod_lt k h0)]
  congr 1
  have a := Nat.mod_lt k h0
  have b := Nat.mod_lt j h0
  rw [Nat.add_mod] at e
  by_cases z : k % n = 0
  · rw [z, Nat.add_zero, Nat.mod_mod] at e
    rw [z, e, Nat.sub_zero, Nat.mod_self]
  · rw [Nat.mod_eq_of_lt (show n - k % n < n by omega)]
    rcases Nat.lt_or_ge (j % n + k % n) n with c | c
    · rw [Nat.mod_eq_of_lt c] at e
      omega
    · rw [Nat.mod_eq_sub_mod c, Nat.mod_eq_of_lt (by omega)] at e
      omega
theorem cosT_is (k n : Nat) : cosT k n = patT (4 * k) (4 * n) := by
  unfold cosT patT
  rw [Nat.mul_mod_mul_left]
theorem sinT_is (k n : Nat) : sinT k n = patT (4 * k + 3 * n) (4 * n) := by
  unfold sinT patT
  rw [← Nat.mul_mod_mul_left, Nat.mod_add_mod]
theorem patT_scale {c n : Nat} (hc : 0 < c) (h : n % 4 = 0) (k : Nat) : patT (c * k) (c * n) = patT k n := by
  unfold patT
  rw [Nat.mul_mod_mul_left, patC_scale hc h]
/-- -k -/
theorem neg_same {j k n : Nat} (h0 : 0 < n) (hn : n ≤ 67108864) (e : (j + k) % n = 0) : cosT j n = cosT k n ∧ sinT j n = flip (sinT k n) := by
  obtain ⟨q, hq⟩ : ∃ q, j + k = n * q := ⟨(j + k) / n, by have := Nat.div_add_mod (j + k) n; omega⟩
  rw [cosT_is, cosT_is, sinT_is, sinT_is]
  constructor
  · refine patT_even (by omega) (by omega) ?_
    rw [show 4 * j + 4 * k = 4 * n * q by rw [Nat.mul_assoc, ← hq]; omega, Nat.mul_mod_right]
  · rw [← patT_half (by omega) (by omega) (by omega), show 4 * n / 2 = 2 * n by omega]
    refine patT_even (by omega) (by omega) ?_
    rw [show 4 * j + 3 * n + (4 * k + 3 * n + 2 * n) = 4 * n * (q + 2) by rw [Nat.mul_add, Nat.mul_assoc, ← hq]; omega, Nat.mul_mod_right]
/-- a quarter more -/
theorem quarter_same {j n : Nat} (h0 : 0 < n) (hn : n ≤ 16777216) : cosT (4 * j + n) (4 * n) = flip (sinT j n) ∧ sinT (4 * j + n) (4 * n) = cosT j n := by
  rw [cosT_is, cosT_is, sinT_is, sinT_is]
  constructor
  · rw [← patT_half (by omega) (by omega) (by omega), patT_scale (by omega) (by omega), show 4 * n / 2 = 2 * n by omega, show 4 * j + 3 * n + 2 * n = 4 * j + n + 4 * n by omega, patT_add]
  · rw [show 4 * (4 * j + n) + 3 * (4 * n) = 4 * (4 * j + 4 * n) by omega, patT_scale (by omega) (by omega), patT_add]
/-- a half more -/
theorem half_same {j n : Nat} (h0 : 0 < n) (hn : n ≤ 16777216) : cosT (2 * j + n) (2 * n) = flip (cosT j n) ∧ sinT (2 * j + n) (2 * n) = flip (sinT j n) := by
  rw [cosT_is, cosT_is, sinT_is, sinT_is]
  constructor
  · rw [← patT_half (by omega) (by omega) (by omega), show 4 * (2 * j + n) = 2 * (4 * j + 4 * n / 2) by omega, show 4 * (2 * n) = 2 * (4 * n) by omega, patT_scale (by omega) (by omega)]
  · rw [← patT_half (by omega) (by omega) (by omega), show 4 * (2 * j + n) + 3 * (2 * n) = 2 * (4 * j + 3 * n + 4 * n / 2) by omega, show 4 * (2 * n) = 2 * (4 * n) by omega, patT_scale (by omega) (by omega)]
end Go.Tu
