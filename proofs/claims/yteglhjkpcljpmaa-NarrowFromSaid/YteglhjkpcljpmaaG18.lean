/-
  Patterns of 32 bits: what is known of calls; pat.Copy as a call in every world.
-/
import Derived.Test.YteglhjkpcljpmaaG09
import Derived.Test.YteglhjkpcljpmaaG14
import Derived.Test.YteglhjkpcljpmaaG15
import Derived.Test.YteglhjkpcljpmaaG06
import Derived.Test.YteglhjkpcljpmaaG17
namespace Go.Proofs.Yteglhjkpcljpmaa
open Go.KRun Go.Wd Go.Pt Go.Rn
set_option maxRecDepth 100000

theorem copy_fits (p q : Int) : Fits (reckon (tabOf Try.prog extY conA true) 300 47 [.int .u64 p, .int .u64 q] []) (.int .u64 (bOr (mag p) (bAnd q 9223372036854775808))) [(decide (U p), true)] := ⟨by kernel_rfl, by kernel_rfl, by kernel_rfl, by kernel_rfl⟩
theorem copy_val {p q : Int} (hq : U q) : bOr (mag p) (bAnd q 9223372036854775808) = sS (sgn q) (mag p) := by
  have hm := mag_lt (p := p)
  have hq0 := hq.1
  have hq1 := hq.2
  rw [bAnd_sign hq, or_low 63 (z := q / 9223372036854775808 % 2) (by omega) (by rfl) hm.1 (show mag p < 2 ^ 63 from hm.2) (by omega)]
  unfold sS sgn
  by_cases h : 9223372036854775808 ≤ q
  · rw [if_pos (decide_eq_true h)]
    omega
  · rw [if_neg (by simpa using h)]
    omega
theorem copy_calls (p q : Int) (hp : U p) (hq : U q) (_ : true = true) (w : World) : Calls Try.prog 47 #[.int .u64 p, .int .u64 q] w fun e w' => e = .returned (.int .u64 (sS (sgn q) (mag p))) ∧ Tidy w w' := by
  have hf := copy_fits p q
  rw [copy_val hq] at hf
  exact fits_calls (tabY_ok conA_ok) hf (okL1 (decide_eq_true hp)) (by rfl) (by rfl) w
/-- what is known of calls -/
def conNA : Con := alt 60 (g1 lenV4) (alt 61 gWh (alt 47 (gUU (fun a b => .int .u64 (sS (sgn b) (mag a))) fun _ _ => true) conG0))
theorem conNA_ok : ConOk conNA := alt_ok Try.func60 rfl (g1_ok wlen_calls) (alt_ok Try.func61 rfl gWh_ok (alt_ok Try.func47 rfl (gUU_ok copy_calls) conG0_ok))
end Go.Proofs.Yteglhjkpcljpmaa

/-
  narrow.withSign, narrow.multiples and narrow.isTiny, as calls in every world.
-/
namespace Go.Proofs.Yteglhjkpcljpmaa
open Go.KRun Go.Wd Go.Pt Go.Rn
set_option maxRecDepth 100000

theorem ws_1 (q p : Int) : Fits (reckon (tabOf Try.prog extY conNA true) 300 13 [.int .u32 q, .int .u64 p] []) (.int .u32 (hOr q (hAnd (IntKind.u32.wrap (p.fdiv (2 ^ min (Int.toNat 32) 64))) 2147483648))) [(decide ((32 : Int) < 0), false)] := ⟨by kernel_rfl, by kernel_rfl, by kernel_rfl, by kernel_rfl⟩
def gWs : Ans := fun vals s =>
  match vals with
  | [.int .u32 q, .int .u64 p] => some (.int .u32 (s3 (sgn p) q), s, [(decide (U p ∧ 0 ≤ q ∧ q < 2147483648), true)])
  | _ => none
theorem gWs_ok : AnsOk 13 gWs := by
  intro vals s v s' lg h hl w
  unfold gWs at h
  split at h
  · rename_i q p
    cases h
    obtain ⟨hp, h0, h1⟩ := of_decide_eq_true (hl _ (List.mem_singleton.2 rfl))
    have hf := ws_1 q p
    have e : ((2 : Int) ^ min (Int.toNat 32) 64) = 4294967296 := by rfl
    rw [e, Int.fdiv_eq_ediv_of_nonneg _ (by omega), sign_over hp h0 h1] at hf
    exact fits_calls (tabY_ok conNA_ok) hf (okL1 (by decide)) (by rfl) (by rfl) w
  · cases h
theorem mu_1 (n d : Bool) (x : W4) (ex e m : Int) : Fits (reckon (tabOf Try.prog extY conNA true) 300 36 [vN n ex x false, .int .i64 e, .int .i64 m] [cmp false, cmp true, cmp d]) (.tuple #[.int .u64 (ofN (whQ m n x false (IntKind.i64.wrap (ex - e)))).a, .bool d]) [(whL x false (IntKind.i64.wrap (ex - e)), d), (decide (whQ m n x false (IntKind.i64.wrap (ex - e)) < 2 ^ 256), true), (early (IntKind.i64.wrap (ex - e)) false, false), (decide x.ok, true)] := ⟨by kernel_rfl, by kernel_rfl, by kernel_rfl, by kernel_rfl⟩
def okMu (x : W4) (ex e : Int) : Bool := decide (x.ok ∧ x.nat < 9223372036854775808 ∧ -1900 ≤ ex - e ∧ ex - e < 0)
theorem toQ_units (m : Int) (n : Bool) (T : Nat) (E e : Int) : toQ m n T (E - e) 0 = toQ m n T E e ∧ toL T (E - e) 0 = toL T E e := by
  unfold toQ toL
  rw [show (E - e - 0).toNat = (E - e).toNat by omega, show (0 - (E - e)).toNat = (e - E).toNat by omega]
  by_cases h : e ≤ E
  · rw [if_pos h, if_pos h, if_pos (by omega), if_pos (by omega)]
    exact ⟨rfl, rfl⟩
  · rw [if_neg h, if_neg h, if_neg (by omega), if_neg (by omega)]
    exact ⟨rfl, rfl⟩
theorem toQ_small {m : Int} {n : Bool} {T : Nat} {E e : Int} (h : E - e < 0) (hT : T < 9223372036854775808) : toQ m n T E e < 18446744073709551616 := by
  unfold toQ rq
  rw [if_neg (by omega)]
  have := Nat.div_le_self T (2 ^ (e - E).toNat)
  split <;> omega
theorem wh_units (m : Int) (n : Bool) (x : W4) {ex e : Int} (h0 : -1900 ≤ ex - e) (h1 : ex - e < 0) : whQ m n x false (ex - e) = toQ m n x.nat ex e ∧ whL x false (ex - e) = toL x.nat ex e := by
  have ec : clp (ex - e) = ex - e := by unfold clp; split <;> split <;> omega
  have et : tw x false = x.nat * 2 ^ 1 := by unfold tw; simp only; omega
  have q := toQ_scale m n x.nat 1 (ex - e) 0
  have l := toL_scale x.nat 1 (ex - e) 0
  rw [show ex - e - ((1 : Nat) : Int) = ex - e - 1 by omega] at q l
  obtain ⟨u1, u2⟩ := toQ_units m n x.nat ex e
  unfold whQ whL
  rw [ec, et, q, l]
  exact ⟨u1, u2⟩
def gMu : Ans := fun vals s =>
  match vals with
  | [v, .int .i64 e, .int .i64 m] =>
    match n7 v, s with
    | some (n, ex, x, false), .inr (.inr (.inr (.inl d))) :: s' => some (.tuple #[.int .u64 (toQ m n x.nat ex e : Nat), .bool d], s', [(toL x.nat ex e, d), (okMu x ex e, true)])
    | _, _ => none
  | _ => none
theorem gMu_ok : AnsOk 36 gMu := by
  intro vals s v s' lg h hl w
  unfold gMu at h
  split at h
  · rename_i v0 e m
    split at h
    · rename_i n ex x d s2 hn
      cases h
      rw [okCs, okCs] at hl
      obtain ⟨l1, l2, _⟩ := hl
      obtain ⟨hx, hT, h0, h1⟩ := of_decide_eq_true l2
      rw [n7_spec hn]
      obtain ⟨eQ, eL⟩ := wh_units m n x h0 h1
      have ew : IntKind.i64.wrap (ex - e) = ex - e := wrapI' ⟨by omega, by omega⟩
      have hq := toQ_small (m := m) (n := n) (T := x.nat) (E := ex) (e := e) h1 hT
      have hf := mu_1 n d x ex e m
      rw [ew, eQ, eL] at hf
      have ea : (ofN (toQ m n x.nat ex e)).a = (toQ m n x.nat ex e : Nat) := by
        unfold ofN W4.of
        dsimp only
        omega
      rw [ea] at hf
      have he : early (ex - e) false = false := by
        unfold early
        rw [decide_eq_false (by omega), decide_eq_false (by omega)]
        rfl
      exact fits_calls (tabY_ok conNA_ok) hf (okCons l1 (okCons (decide_eq_true (Nat.lt_trans hq (by decide))) (okCons he (okL1 (decide_eq_true hx))))) (by rfl) (by rfl) w
    · cases h
  · cases h
def conNB : Con := alt 13 gWs (alt 36 gMu conNA)
theorem conNB_ok : ConOk conNB := alt_ok Try.func13 rfl gWs_ok (alt_ok Try.func36 rfl gMu_ok conNA_ok)
def k23 (k : Int) : Int := IntKind.i64.wrap (k - 23)
theorem tn_0 (n : Bool) (x : W4) (ex k m : Int) : Fits (reckon (tabOf Try.prog extY conNB true) 300 39 [vN n ex x false, .int .i64 k, .int .i64 m] [cmp true]) (.bool (decide (k < -126))) [(k != -127, true)] := ⟨by kernel_rfl, by kernel_rfl, by kernel_rfl, by kernel_rfl⟩
theorem tn_1 (n d : Bool) (x : W4) (ex k m : Int) : Fits (reckon (tabOf Try.prog extY conNB true) 300 39 [vN n ex x false, .int .i64 k, .int .i64 m] [cmp false, cmp d]) (.bool (decide (((toQ m n x.nat ex (k23 k) : Nat) : Int) < 16777216))) [(toL x.nat ex (k23 k), d), (okMu x ex (k23 k), true), (k != -127, false)] := ⟨by kernel_rfl, by kernel_rfl, by kernel_rfl, by kernel_rfl⟩
def tnN (m : Int) (n : Bool) (T : Nat) (E k : Int) : Bool := if k = -127 then decide (toQ m n T E (-150) < 16777216) else decide (k < -126)
def gTnN : Ans := fun vals s =>
  match vals with
  | [v, .int .i64 k, .int .i64 m] =>
    match n7 v, s with
    | some (n, ex, x, false), .inr (.inr (.inr (.inl t))) :: s' => some (.bool t, s', [(tnN m n x.nat ex k, t), (decide (k = -127 → okMu x ex (-150) = true), true)])
    | _, _ => none
  | _ => none
theorem gTnN_ok : AnsOk 39 gTnN := by
  intro vals s v s' lg h hl w
  unfold gTnN at h
  split at h
  · rename_i v0 k m
    split at h
    · rename_i n ex x t s2 hn
      cases h
      rw [okCs, okCs] at hl
      obtain ⟨l1, l2, _⟩ := hl
      have h2 := of_decide_eq_true l2
      rw [n7_spec hn, ← l1]
      unfold tnN
      by_cases hk : k = -127
      · rw [if_pos hk]
        have ek : k23 k = -150 := by rw [hk]; rfl
        have hf := tn_1 n (toL x.nat ex (-150)) x ex k m
        rw [ek, decide_eq_decide.2 (show ((toQ m n x.nat ex (-150) : Nat) : Int) < 16777216 ↔ toQ m n x.nat ex (-150) < 16777216 by omega)] at hf
        exact fits_calls (tabY_ok conNB_ok) hf (okCons rfl (okCons (h2 hk) (okL1 (bne_f hk)))) (by rfl) (by rfl) w
      · rw [if_neg hk]
        exact fits_calls (tabY_ok conNB_ok) (tn_0 n x ex k m) (okL1 (bne_t hk)) (by rfl) (by rfl) w
    · cases h
  · cases h
def conNC : Con := alt 39 gTnN conNB
theorem conNC_ok : ConOk conNC := alt_ok Try.func39 rfl gTnN_ok conNB_ok
end Go.Proofs.Yteglhjkpcljpmaa

/-
  narrow.number and narrow.round, as calls in every world.
-/
namespace Go.Proofs.Yteglhjkpcljpmaa
open Go.KRun Go.Wd Go.Pt Go.Rn
set_option maxRecDepth 100000

def l23 : Bool × Bool := (decide ((23 : Int) < 0), false)
/-! ### number -/
def exC (q : Int) : Int := IntKind.i64.wrap (q.fdiv (2 ^ min (Int.toNat 23) 32))
def frC (q : Int) : Int := IntKind.u64.wrap (q.tmod 8388608)
theorem nu_0 (q : Int) : Fits (reckon (tabOf Try.prog extY conNC true) 300 26 [.int .u32 q] [cmp false, cmp true]) (vN false (-149) ⟨frC q, 0, 0, 0⟩ false) [(exC q == 0, true), (decide ((8388608 : Int) = 0), false), l23] := ⟨by kernel_rfl, by kernel_rfl, by kernel_rfl, by kernel_rfl⟩
theorem nu_1 (q : Int) : Fits (reckon (tabOf Try.prog extY conNC true) 300 26 [.int .u32 q] [cmp false, cmp false]) (vN false (IntKind.i64.wrap (exC q - 150)) ⟨bOr (frC q) 8388608, 0, 0, 0⟩ false) [(exC q == 0, false), (decide ((8388608 : Int) = 0), false), l23] := ⟨by kernel_rfl, by kernel_rfl, by kernel_rfl, by kernel_rfl⟩
def gNuN : Ans := fun vals s =>
  match vals with
  | [.int .u32 q] => some (vN false (xp3 q) ⟨sg3 q, 0, 0, 0⟩ false, s, [(decide (0 ≤ q ∧ q < 2147483648), true)])
  | _ => none
theorem gNuN_ok : AnsOk 26 gNuN := by
  intro vals s v s' lg h hl w
  unfold gNuN at h
  split at h
  · rename_i q
    cases h
    obtain ⟨h0, h1⟩ := of_decide_eq_true (hl _ (List.mem_singleton.2 rfl))
    have e : ((2 : Int) ^ min (Int.toNat 23) 32) = 8388608 := by rfl
    have ee : exC q = ex3 q := by
      unfold exC ex3
      rw [e, Int.fdiv_eq_ediv_of_nonneg _ (by omega), wrapI' ⟨by omega, by omega⟩]
      omega
    have ef : frC q = fr3 q := by
      unfold frC fr3
      rw [Int.tmod_eq_emod_of_nonneg h0, wrapU]
      omega
    have fb := fr3_bd q
    have eb := ex3_bd q
    unfold xp3 sg3
    by_cases hz : ex3 q = 0
    · rw [if_pos hz, if_pos hz, ← ef]
      exact fits_calls (tabY_ok conNC_ok) (nu_0 q) (okCons (beq_t (ee.trans hz)) (okCons (by decide) (okL1 (by decide)))) (by rfl) (by rfl) w
    · rw [if_neg hz, if_neg hz]
      have hf := nu_1 q
      rw [ee, ef, wrapI' ⟨by omega, by omega⟩, or_low 23 (z := 1) (by omega) (by rfl) fb.1 (show fr3 q < 2 ^ 23 from fb.2) (by omega), Int.add_comm] at hf
      exact fits_calls (tabY_ok conNC_ok) hf (okCons (beq_f hz) (okCons (by decide) (okL1 (by decide)))) (by rfl) (by rfl) w
  · cases h
/-! ### round -/
def e23 (ex : Int) (x : W4) : Int := if -149 > k23 (lgW ex x) then -149 else k23 (lgW ex x)
def pN (m : Int) (n : Bool) (x : W4) (ex : Int) : Int := IntKind.u64.wrap (IntKind.u64.wrap (IntKind.u64.wrap (IntKind.i64.wrap (e23 ex x - -149)) * 2 ^ min (Int.toNat 23) 64) + (toQ m n x.nat ex (e23 ex x) : Nat))
def roN (p f : Int) : Value := .tuple #[.int .u32 p, .int .u8 f]
def lRo (m : Int) (n : Bool) (x : W4) (ex : Int) (b o : Bool) : Log := [(decide (pN m n x ex ≥ 2139095040), b), l23, (toL x.nat ex (e23 ex x), o), (okMu x ex (e23 ex x), true), (decide x.ok, true)]
def lRt (m : Int) (n : Bool) (x : W4) (ex : Int) (t : Bool) (l : Log) : Log := (tnN m n x.nat ex (lgW ex x), t) :: (decide (lgW ex x = -127 → okMu x ex (-150) = true), true) :: l
theorem ro_b (n o : Bool) (x : W4) (ex m : Int) : Fits (reckon (tabOf Try.prog extY conNC true) 300 15 [vN n ex x false, .int .i64 m] [cmp o, cmp true, cmp true]) (roN (IntKind.u32.wrap (2139095039 + IntKind.u32.wrap (toQ m n (⟨3, 0, 0, 0⟩ : W4).nat (-2) 0 : Nat))) 20) ((toL (⟨3, 0, 0, 0⟩ : W4).nat (-2) 0, true) :: (okMu (⟨3, 0, 0, 0⟩ : W4) (-2) 0, true) :: lRo m n x ex true o) := ⟨by kernel_rfl, by kernel_rfl, by kernel_rfl, by kernel_rfl⟩
theorem ro_t (n : Bool) (x : W4) (ex m : Int) : Fits (reckon (tabOf Try.prog extY conNC true) 300 15 [vN n ex x false, .int .i64 m] [cmp true, cmp false, cmp true]) (roN (IntKind.u32.wrap (pN m n x ex)) 24) (lRt m n x ex true (lRo m n x ex false true)) := ⟨by kernel_rfl, by kernel_rfl, by kernel_rfl, by kernel_rfl⟩
theorem ro_o (n : Bool) (x : W4) (ex m : Int) : Fits (reckon (tabOf Try.prog extY conNC true) 300 15 [vN n ex x false, .int .i64 m] [cmp true, cmp false, cmp false]) (roN (IntKind.u32.wrap (pN m n x ex)) 16) (lRt m n x ex false (lRo m n x ex false true)) := ⟨by kernel_rfl, by kernel_rfl, by kernel_rfl, by kernel_rfl⟩
theorem ro_x (n : Bool) (x : W4) (ex m : Int) : Fits (reckon (tabOf Try.prog extY conNC true) 300 15 [vN n ex x false, .int .i64 m] [cmp false, cmp false]) (roN (IntKind.u32.wrap (pN m n x ex)) 0) (lRo m n x ex false false) := ⟨by kernel_rfl, by kernel_rfl, by kernel_rfl, by kernel_rfl⟩
def okRN (x : W4) (ex : Int) : Bool := decide (x.ok ∧ x.nat < 9007199254740992 ∧ (4503599627370496 ≤ x.nat ∨ ex = -1074) ∧ -1074 ≤ ex ∧ ex ≤ 972)
theorem len_pat {T : Nat} (h : T < 9007199254740992) : bitLen T ≤ 53 ∧ (4503599627370496 ≤ T → bitLen T = 53) := by
  have h1 : bitLen T ≤ 53 := len_le (k := 53) (show T < 2 ^ 53 from h)
  refine ⟨h1, fun h2 => ?_⟩
  have h3 := (bitLen_spec T).1
  have h4 : ¬ bitLen T ≤ 52 := fun h5 => by
    have : 2 ^ bitLen T ≤ 2 ^ 52 := Nat.pow_le_pow_right (by omega) h5
    have e : (2 : Nat) ^ 52 = 4503599627370496 := rfl
    omega
  omega
theorem ro_plain {m : Int} {n : Bool} {T : Nat} {E : Int} (h : T ≠ 0 ∨ E = -1074) : rnPN m n T E = (if 2139095040 ≤ p0N m n T E then beyN m n else p0N m n T E) ∧ rnFN m n T E = (if 2139095040 ≤ p0N m n T E then 20 else if toL T E (lowEN T E) = true then (if tinyN m n T E = true then 24 else 16) else 0) := by
  unfold rnPN rnFN
  by_cases hT : T = 0
  · subst hT
    rcases h with h | h
    · exact absurd rfl h
    subst h
    have e1 : lowEN 0 (-1074) = -149 := by decide
    have e2 : toQ m n 0 (-1074) (-149) = 0 := by
      unfold toQ rq
      rw [if_neg (by omega), Nat.zero_div, Nat.zero_mod, restC_zero, upR_zero]
      rfl
    have e3 : p0N m n 0 (-1074) = 0 := by unfold p0N; rw [e1, e2]; rfl
    have e4 : toL 0 (-1074) (-149) = false := by
      unfold toL
      rw [if_neg (by omega), Nat.zero_mod]
      rfl
    rw [e3, e1, e4]
    simp
  · rw [if_neg hT, if_neg hT]
    exact ⟨rfl, rfl⟩
theorem ro_calls (n : Bool) (x : W4) (ex m : Int) (h : okRN x ex = true) (w : World) : Calls Try.prog 15 #[vN n ex x false, .int .i64 m] w fun r w' => r = .returned (roN (rnPN m n x.nat ex) (rnFN m n x.nat ex)) ∧ Tidy w w' := by
  have T := tabY_ok conNC_ok
  have hv : ([vN n ex x false, .int .i64 m].all (lt 0)) = true := rfl
  obtain ⟨hx, hT, hc, h0, h1⟩ := of_decide_eq_true h
  obtain ⟨b1, b2⟩ := len_pat hT
  have kx : decide x.ok = true := decide_eq_true hx
  have el : lgW ex x = lgN x.nat ex := by
    unfold lgW lgN
    rw [lenI_nat, wrapI' (n := ex + ((bitLen x.nat : Nat) : Int)) ⟨by omega, by omega⟩, wrapI' ⟨by omega, by omega⟩]
  have lb : lgN x.nat ex = ex + ((bitLen x.nat : Nat) : Int) - 1 := rfl
  have ek : k23 (lgN x.nat ex) = lgN x.nat ex - 23 := by unfold k23; exact wrapI' ⟨by omega, by omega⟩
  have ee : e23 ex x = lowEN x.nat ex := by
    unfold e23 lowEN
    rw [el, ek]
    split <;> split <;> omega
  have le : -149 ≤ lowEN x.nat ex ∧ lowEN x.nat ex ≤ 1001 ∧ ex - lowEN x.nat ex < 0 ∧ -1900 ≤ ex - lowEN x.nat ex := by
    unfold lowEN
    rw [lb]
    rcases hc with hc | hc
    · have := b2 hc
      split <;> omega
    · split <;> omega
  have hm : okMu x ex (lowEN x.nat ex) = true := decide_eq_true ⟨hx, by omega, le.2.2.2, le.2.2.1⟩
  have hh := low_hiN m n x.nat ex
  have ep : pN m n x ex = p0N m n x.nat ex := by
    have e : ((2 : Int) ^ min (Int.toNat 23) 64) = 8388608 := by rfl
    unfold pN p0N
    rw [ee, e, wrapI' ⟨by omega, by omega⟩, wrapU, wrapU, wrapU]
    omega
  have hp0 := p0_nonnegN m n x.nat ex
  obtain ⟨r1, r2⟩ := ro_plain (m := m) (n := n) (T := x.nat) (E := ex) (by rcases hc with hc | hc; exact .inl (by omega); exact .inr hc)
  rw [r1, r2]
  have kl : (toL x.nat ex (e23 ex x), toL x.nat ex (lowEN x.nat ex)).1 = (toL x.nat ex (e23 ex x), toL x.nat ex (lowEN x.nat ex)).2 := by rw [ee]
  have km : okMu x ex (e23 ex x) = true := by rw [ee]; exact hm
  by_cases hb : 2139095040 ≤ p0N m n x.nat ex
  · rw [if_pos hb, if_pos hb]
    have hf := ro_b n (toL x.nat ex (lowEN x.nat ex)) x ex m
    have e3 : (⟨3, 0, 0, 0⟩ : W4).nat = 3 := rfl
    have ev : IntKind.u32.wrap (2139095039 + IntKind.u32.wrap (toQ m n (⟨3, 0, 0, 0⟩ : W4).nat (-2) 0 : Nat)) = beyN m n := by
      rw [e3, up_34, wrap3, wrap3]
      unfold beyN
      split <;> rfl
    rw [ev] at hf
    exact fits_calls T hf (okCons (by decide) (okCons (by decide) (okCons (decide_eq_true (by rw [ep]; omega)) (okCons (by decide) (okCons kl (okCons km (okL1 kx))))))) hv (by rfl) w
  rw [if_neg hb, if_neg hb]
  have kb : decide (pN m n x ex ≥ 2139095040) = false := decide_eq_false (by rw [ep]; omega)
  have ew : IntKind.u32.wrap (pN m n x ex) = p0N m n x.nat ex := by rw [ep, wrap3]; omega
  have ki : decide (lgW ex x = -127 → okMu x ex (-150) = true) = true := decide_eq_true fun hk => by
    rw [el, lb] at hk
    rcases hc with hc | hc
    · have := b2 hc
      exact decide_eq_true ⟨hx, by omega, by omega, by omega⟩
    · omega
  have kt : tnN m n x.nat ex (lgW ex x) = tinyN m n x.nat ex := by rw [el]; rfl
  cases hl : toL x.nat ex (lowEN x.nat ex) with
  | true =>
    have kl2 : toL x.nat ex (e23 ex x) = true := by rw [ee]; exact hl
    rw [if_pos rfl]
    cases ht : tinyN m n x.nat ex with
    | true =>
      have hf := ro_t n x ex m
      rw [ew] at hf
      exact fits_calls T hf (okCons (kt.trans ht) (okCons ki (okCons kb (okCons (by decide) (okCons kl2 (okCons km (okL1 kx))))))) hv (by rfl) w
    | false =>
      have hf := ro_o n x ex m
      rw [ew] at hf
      exact fits_calls T hf (okCons (kt.trans ht) (okCons ki (okCons kb (okCons (by decide) (okCons kl2 (okCons km (okL1 kx))))))) hv (by rfl) w
  | false =>
    have kl2 : toL x.nat ex (e23 ex x) = false := by rw [ee]; exact hl
    have hf := ro_x n x ex m
    rw [ew] at hf
    exact fits_calls T hf (okCons kb (okCons (by decide) (okCons kl2 (okCons km (okL1 kx))))) hv (by rfl) w
def gRoN : Ans := fun vals s =>
  match vals with
  | [v, .int .i64 m] =>
    match n7 v with
    | some (n, ex, x, false) => some (roN (rnPN m n x.nat ex) (rnFN m n x.nat ex), s, [(okRN x ex, true)])
    | _ => none
  | _ => none
theorem gRoN_ok : AnsOk 15 gRoN := by
  intro vals s v s' lg h hl w
  unfold gRoN at h
  split at h
  · rename_i v0 m
    split at h
    · rename_i n ex x hn
      cases h
      rw [n7_spec hn]
      exact ro_calls n x ex m (hl _ (List.mem_singleton.2 rfl)) w
    · cases h
  · cases h
def conND : Con := alt 26 gNuN (alt 15 gRoN conNB)
theorem conND_ok : ConOk conND := alt_ok Try.func26 rfl gNuN_ok (alt_ok Try.func15 rfl gRoN_ok conNB_ok)
end Go.Proofs.Yteglhjkpcljpmaa
