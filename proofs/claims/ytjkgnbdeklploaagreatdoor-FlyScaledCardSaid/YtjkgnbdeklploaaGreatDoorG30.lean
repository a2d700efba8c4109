/-
  TuA, TuB, TuC, RunK, RunL, FlA, RunN
-/
import Derived.Test.YtjkgnbdeklploaaGreatDoorG29
namespace Go.Proofs.YtjkgnbdeklploaaGreatDoor
open Go.KRun Go.Wd Go.Pt
set_option maxRecDepth 100000
def piT : W4 := ⟨0xd0082efa98ec4e6c, 0x44a4093822299f31, 0xd313198a2e037073, 0x03243f6a8885a308⟩
theorem piT_ok : piT.ok := by decide
theorem piT_nat : piT.nat = Go.Tu.piP := by rfl
theorem piT_fits : Fits (reckon (tabOf Tryz.prog extY conN true) 100 168 [] []) (vW piT) [] := ⟨by kernel_rfl, by kernel_rfl, by kernel_rfl, by kernel_rfl⟩
theorem piT_calls (w : World) : Calls Tryz.prog 168 #[] w fun e w' => e = .returned (vW piT) ∧ Tidy w w' := fits_calls (tabY_ok conN_ok) piT_fits okNil (by rfl) (by rfl) w
def conTA : Con := alt 166 gFOf (alt 167 gFMd (alt 168 (g0 (vW piT)) conN))
theorem conTA_ok : ConOk conTA := alt_ok Tryz.func166 rfl gFOf_ok (alt_ok Tryz.func167 rfl gFMd_ok (alt_ok Tryz.func168 rfl (g0_ok piT_calls) conN_ok))
/-! ### an angle -/
def tk (k : Int) : Int := IntKind.u64.wrap (IntKind.i64.wrap (2 * k))
def tn (n : Int) : Int := IntKind.u64.wrap n
def qT (k n : Int) : W4 := W4.of (foI (tk k) (tn n))
theorem ang_fits (k n : Int) : Fits (reckon (tabOf Tryz.prog extY conTA true) 300 161 [.int .i64 k, .int .i64 n] [cmp false, cmp false, cmp false]) (vW (W4.of (fmI (qT k n) piT)))
    [(decide (115792089237316195423570985008687907853269984665640564039457584007913129639936 ≤ fmI (qT k n) piT), false), q2 (qT k n) piT, (decide (115792089237316195423570985008687907853269984665640564039457584007913129639936 ≤ fmI (qT k n) piT), false), q2 (qT k n) piT, (decide (115792089237316195423570985008687907853269984665640564039457584007913129639936 ≤ fmI (qT k n) piT), false), q2 (qT k n) piT, (decide (115792089237316195423570985008687907853269984665640564039457584007913129639936 ≤ foI (tk k) (tn n)), false), (decide (tn n = 0), false), (decide (uu (tk k) (tn n)), true)] := ⟨by kernel_rfl, by kernel_rfl, by kernel_rfl, by kernel_rfl⟩
theorem uP_lit : Go.Fx.uP = 452312848583266388373324160190187140051835877600158453279131187530910662656 := by decide +kernel
theorem ofI_lt {z : Int} {q : Nat} (h : z = (q : Int)) : W4.of z = ofN q := by
  rw [h]
  rfl
theorem foI_is {k n : Nat} : foI k n = ((k * Go.Fx.uP / n : Nat) : Int) := by
  unfold foI
  rw [uP_lit, Int.natCast_ediv, Int.natCast_mul]
  rfl
/-- an eighth of a turn at most -/
abbrev inA (k n : Int) : Prop := 0 ≤ k ∧ 8 * k ≤ n ∧ 1 ≤ n ∧ n ≤ 268435456
def angI (k n : Int) : W4 := ofN (Go.Tu.angN k.toNat n.toNat)
theorem angI_nat {k n : Int} (h : inA k n) : (angI k n).ok ∧ (angI k n).nat = Go.Tu.angN k.toNat n.toNat ∧ Go.Tu.angN k.toNat n.toNat ≤ Go.Fx.uP := by
  obtain ⟨h1, h2, h3, h4⟩ := h
  have hl : Go.Tu.angN k.toNat n.toNat ≤ Go.Fx.uP := Go.Tu.angN_le (by omega)
  refine ⟨ofN_ok _, ofN_nat (Nat.lt_of_le_of_lt hl (by decide)), hl⟩
theorem ang_calls {k n : Int} (h : inA k n) (w : World) : Calls Tryz.prog 161 #[.int .i64 k, .int .i64 n] w fun e w' => e = .returned (vW (angI k n)) ∧ Tidy w w' := by
  have hl := (angI_nat h).2.2
  obtain ⟨h1, h2, h3, h4⟩ := h
  have ek : tk k = ((2 * k.toNat : Nat) : Int) := by
    unfold tk
    rw [wrap_i64' (by omega) (by omega), wrap_u64' (by omega) (by omega)]
    omega
  have en : tn n = ((n.toNat : Nat) : Int) := by
    unfold tn
    rw [wrap_u64' (by omega) (by omega)]
    omega
  have eq : foI (tk k) (tn n) = ((2 * k.toNat * Go.Fx.uP / n.toNat : Nat) : Int) := by rw [ek, en]; exact foI_is
  have hq : 2 * k.toNat * Go.Fx.uP / n.toNat ≤ Go.Fx.uP := by
    refine Nat.div_le_of_le_mul ?_
    exact Nat.mul_le_mul_right _ (by omega)
  have hqM : 2 * k.toNat * Go.Fx.uP / n.toNat < 115792089237316195423570985008687907853269984665640564039457584007913129639936 := by
    rw [uP_lit] at hq ⊢
    omega
  have wq : qT k n = ofN (2 * k.toNat * Go.Fx.uP / n.toNat) := ofI_lt eq
  have nq : (qT k n).nat = 2 * k.toNat * Go.Fx.uP / n.toNat := by rw [wq]; exact ofN_nat hqM
  have okq : (qT k n).ok := W4.ok_of _
  have em : fmI (qT k n) piT = ((Go.Tu.angN k.toNat n.toNat : Nat) : Int) := by
    unfold fmI
    rw [W4.nat_val okq, W4.nat_val piT_ok, nq, piT_nat]
    unfold Go.Tu.angN
    rw [Int.natCast_ediv, Int.natCast_mul, uP_lit]
    rfl
  have wm : W4.of (fmI (qT k n) piT) = angI k n := ofI_lt em
  have l1 : decide (115792089237316195423570985008687907853269984665640564039457584007913129639936 ≤ fmI (qT k n) piT) = false := decide_eq_false (by rw [em]; rw [uP_lit] at hl; omega)
  have l2 : (q2 (qT k n) piT).1 = (q2 (qT k n) piT).2 := decide_eq_true ⟨okq, piT_ok⟩
  have M := fits_calls (tabY_ok conTA_ok) (ang_fits k n) (okPC l1 (okPC l2 (okPC l1 (okPC l2 (okPC l1 (okPC l2 (okPC (decide_eq_false (by rw [eq]; omega)) (okPC (decide_eq_false (by rw [en]; omega)) (okP1 (decide_eq_true (by rw [ek, en]; unfold uu; omega))))))))))) (by rfl) (by rfl) w
  rw [wm] at M
  exact M
def gAngl : Ans := fun vals s => match vals with | [.int .i64 k, .int .i64 n] => some (vW (angI k n), s, [(decide (inA k n), true)]) | _ => none
theorem gAngl_ok : AnsOk 161 gAngl := by
  intro vals s v s' lg h hl w
  unfold gAngl at h
  split at h
  · cases h
    exact ang_calls (of_decide_eq_true (hl _ (List.mem_singleton.2 rfl))) w
  · cases h
/-! ### the lower bound -/
def conTB : Con := alt 161 gAngl (alt 162 (gAng sinV) (alt 160 (gAng cosV) conN))
theorem conTB_ok : ConOk conTB := alt_ok Tryz.func161 rfl gAngl_ok (alt_ok Tryz.func162 rfl (gAng_ok sin_calls) (alt_ok Tryz.func160 rfl (gAng_ok cos_calls) conN_ok))
def k8 (k : Int) : Int := IntKind.i64.wrap (8 * k)
def qk4 (k n : Int) : Int := IntKind.i64.wrap (IntKind.i64.wrap (n.tdiv 4) - k)
def uPx (x : W4) : Bool × Bool := (decide (Go.Fx.uP < x.nat), false)
theorem uPx_no {x : W4} (h : ¬ Go.Fx.uP < x.nat) : (uPx x).1 = (uPx x).2 := decide_eq_false h
theorem oW_yes {x : W4} (h : x.ok) : (oW x).1 = (oW x).2 := decide_eq_true h
theorem near_c (k n : Int) : Fits (reckon (tabOf Tryz.prog extY conTB true) 300 158 [.int .i64 k, .int .i64 n] [cmp true, cmp false]) (vW (ofN (clN (angI k n)))) [uPx (angI k n), oW (angI k n), (decide (inA k n), true), (decide (k8 k ≤ n), true)] := ⟨by kernel_rfl, by kernel_rfl, by kernel_rfl, by kernel_rfl⟩
theorem near_s (k n : Int) : Fits (reckon (tabOf Tryz.prog extY conTB true) 300 158 [.int .i64 k, .int .i64 n] [cmp false, cmp false]) (vW (ofN (slN (angI (qk4 k n) n)))) [uPx (angI (qk4 k n) n), oW (angI (qk4 k n) n), (decide (inA (qk4 k n) n), true), (decide (k8 k ≤ n), false)] := ⟨by kernel_rfl, by kernel_rfl, by kernel_rfl, by kernel_rfl⟩
/-- a quarter of a turn at most -/
abbrev inQ (k n : Int) : Prop := 0 ≤ k ∧ 4 * k ≤ n ∧ 1 ≤ n ∧ n ≤ 268435456
def lowI (k n : Int) : W4 := ofN (Go.Tu.lowC k.toNat n.toNat)
theorem near_calls {k n : Int} (h : inQ k n) (w : World) : Calls Tryz.prog 158 #[.int .i64 k, .int .i64 n] w fun e w' => e = .returned (vW (lowI k n)) ∧ Tidy w w' := by
  obtain ⟨h1, h2, h3, h4⟩ := h
  have e8 : k8 k = 8 * k := by
    unfold k8
    rw [wrap_i64' (by omega) (by omega)]
  have e4 : qk4 k n = n / 4 - k := by
    unfold qk4
    rw [Int.tdiv_eq_ediv_of_nonneg (by omega), wrap_i64' (n := n / 4) (by omega) (by omega), wrap_i64' (by omega) (by omega)]
  by_cases c : 8 * k ≤ n
  · have hA : inA k n := ⟨h1, c, h3, h4⟩
    obtain ⟨a1, a2, a3⟩ := angI_nat hA
    have e : ofN (clN (angI k n)) = lowI k n := by
      unfold lowI Go.Tu.lowC clN
      rw [if_pos (by omega), a2]
    have M := fits_calls (tabY_ok conTB_ok) (near_c k n) (okPC (uPx_no (by rw [a2]; omega)) (okPC (oW_yes a1) (okPC (decide_eq_true hA) (okP1 (decide_eq_true (by rw [e8]; exact c)))))) (by rfl) (by rfl) w
    rw [e] at M
    exact M
  · have hA : inA (qk4 k n) n := by rw [e4]; exact ⟨by omega, by omega, h3, h4⟩
    obtain ⟨a1, a2, a3⟩ := angI_nat hA
    have e : ofN (slN (angI (qk4 k n) n)) = lowI k n := by
      unfold lowI Go.Tu.lowC slN
      rw [if_neg (by omega), a2, e4, show (n / 4 - k).toNat = n.toNat / 4 - k.toNat by omega]
    have M := fits_calls (tabY_ok conTB_ok) (near_s k n) (okPC (uPx_no (by rw [a2]; omega)) (okPC (oW_yes a1) (okPC (decide_eq_true hA) (okP1 (decide_eq_false (by rw [e8]; exact c)))))) (by rfl) (by rfl) w
    rw [e] at M
    exact M
def gNrT : Ans := fun vals s => match vals with | [.int .i64 k, .int .i64 n] => some (vW (lowI k n), s, [(decide (inQ k n), true)]) | _ => none
theorem gNrT_ok : AnsOk 158 gNrT := by
  intro vals s v s' lg h hl w
  unfold gNrT at h
  split at h
  · cases h
    exact near_calls (of_decide_eq_true (hl _ (List.mem_singleton.2 rfl))) w
  · cases h
/-! ### the cosine -/
def conTC : Con := alt 158 gNrT (alt 104 gRd conN)
theorem conTC_ok : ConOk conTC := alt_ok Tryz.func158 rfl gNrT_ok (alt_ok Tryz.func104 rfl gRd_ok conN_ok)
def hfI (n : Int) : Int := IntKind.i64.wrap (n.tdiv 2)
def qrI (n : Int) : Int := IntKind.i64.wrap (n.tdiv 4)
def fk (a : Bool) (k n : Int) : Int := match a with | true => IntKind.i64.wrap (n - k) | false => k
def fq (a b : Bool) (k n : Int) : Int := match b with | true => IntKind.i64.wrap (hfI n - fk a k n) | false => fk a k n
def patV (s : Bool) (x : W4) : Value := .int .u64 (sS s (Go.Rn.rnP 0 s (tw x false) (clp (-248) - 1)))
theorem cos_ab (a b : Bool) (k n : Int) : Fits (reckon (tabOf Tryz.prog extY conTC true) 300 150 [.int .i64 k, .int .i64 n] [cmp a, cmp b]) (patV b (lowI (fq a b k n) n)) [oW (lowI (fq a b k n) n), (decide (inQ (fq a b k n) n), true), (decide (fk a k n > qrI n), b), (decide (k > hfI n), a)] := by
  cases a <;> cases b <;> exact ⟨by kernel_rfl, by kernel_rfl, by kernel_rfl, by kernel_rfl⟩
/-- within a turn, of which a quarter is whole -/
abbrev inT (k n : Int) : Prop := 0 ≤ k ∧ k < n ∧ n % 4 = 0 ∧ n ≤ 268435456
theorem cosine_calls {k n : Int} (h : inT k n) (w : World) : Calls Tryz.prog 150 #[.int .i64 k, .int .i64 n] w fun e w' => e = .returned (.int .u64 (Go.Tu.patC k.toNat n.toNat)) ∧ Tidy w w' := by
  obtain ⟨h1, h2, h3, h4⟩ := h
  have eh : hfI n = n / 2 := by
    unfold hfI
    rw [Int.tdiv_eq_ediv_of_nonneg (by omega), wrap_i64' (by omega) (by omega)]
  have eq : qrI n = n / 4 := by
    unfold qrI
    rw [Int.tdiv_eq_ediv_of_nonneg (by omega), wrap_i64' (by omega) (by omega)]
  obtain ⟨a, ha⟩ : ∃ a, decide (k > hfI n) = a := ⟨_, rfl⟩
  obtain ⟨b, hb⟩ : ∃ b, decide (fk a k n > qrI n) = b := ⟨_, rfl⟩
  have ek : fk a k n = ((Go.Tu.foldK k.toNat n.toNat : Nat) : Int) := by
    unfold Go.Tu.foldK
    rw [eh] at ha
    cases a
    · have := of_decide_eq_false ha
      rw [if_neg (by omega)]
      show k = _
      omega
    · have := of_decide_eq_true ha
      rw [if_pos (by omega)]
      show IntKind.i64.wrap (n - k) = _
      rw [wrap_i64' (by omega) (by omega)]
      omega
  have fb : Go.Tu.foldK k.toNat n.toNat ≤ n.toNat / 2 := by
    unfold Go.Tu.foldK
    split <;> omega
  have es : b = Go.Tu.foldS k.toNat n.toNat := by
    rw [← hb, ek, eq]
    unfold Go.Tu.foldS
    exact decide_eq_decide.2 ⟨fun _ => by omega, fun _ => by omega⟩
  have eQ : fq a b k n = ((Go.Tu.foldQ k.toNat n.toNat : Nat) : Int) := by
    unfold Go.Tu.foldQ
    rw [ek, eq] at hb
    cases b
    · have := of_decide_eq_false hb
      rw [if_neg (by omega)]
      exact ek
    · have := of_decide_eq_true hb
      rw [if_pos (by omega)]
      show IntKind.i64.wrap (hfI n - fk a k n) = _
      rw [eh, ek, wrap_i64' (by omega) (by omega)]
      omega
  have q := (Go.Tu.fold_half (n := n.toNat) (k := k.toNat) (by omega) (by omega)).2.2.1
  have hQ : inQ (fq a b k n) n := by rw [eQ]; exact ⟨by omega, by omega, by omega, h4⟩
  have lb : Go.Tu.lowC (Go.Tu.foldQ k.toNat n.toNat) n.toNat ≤ Go.Fx.uP := Go.Tu.lowC_le q
  have el : lowI (fq a b k n) n = ofN (Go.Tu.lowC (Go.Tu.foldQ k.toNat n.toNat) n.toNat) := by rw [eQ]; rfl
  have nl : (lowI (fq a b k n) n).nat = Go.Tu.lowC (Go.Tu.foldQ k.toNat n.toNat) n.toNat := by
    rw [el]
    exact ofN_nat (Nat.lt_of_le_of_lt lb (by decide))
  have ep : patV b (lowI (fq a b k n) n) = .int .u64 (Go.Tu.patC k.toNat n.toNat) := by
    unfold patV Go.Tu.patC Go.Tu.rnd16
    rw [← es, show tw (lowI (fq a b k n) n) false = 2 * (lowI (fq a b k n) n).nat from Nat.add_zero _, nl, show clp (-248) - 1 = -249 from by decide]
    unfold sS
    cases b
    · rw [if_neg (by decide), if_neg (by decide), Int.zero_add]
    · rw [if_pos rfl, if_pos rfl]
  have M := fits_calls (tabY_ok conTC_ok) (cos_ab a b k n) (okPC (oW_yes (ofN_ok _)) (okPC (decide_eq_true hQ) (okPC hb (okP1 ha)))) (by rfl) (by rfl) w
  rw [ep] at M
  exact M
def gCosi : Ans := fun vals s => match vals with | [.int .i64 k, .int .i64 n] => some (.int .u64 (Go.Tu.patC k.toNat n.toNat), s, [(decide (inT k n), true)]) | _ => none
theorem gCosi_ok : AnsOk 150 gCosi := by
  intro vals s v s' lg h hl w
  unfold gCosi at h
  split at h
  · cases h
    exact cosine_calls (of_decide_eq_true (hl _ (List.mem_singleton.2 rfl))) w
  · cases h
theorem wi_neg (k n : Int) : Fits (reckon (tabOf Tryz.prog extY conN true) 300 129 [.int .i64 k, .int .i64 n] [cmp false, cmp true]) (.int .i64 (IntKind.i64.wrap (k.tmod n + n))) [(decide (k.tmod n < 0), true), (decide (n = 0), false)] := ⟨by kernel_rfl, by kernel_rfl, by kernel_rfl, by kernel_rfl⟩
theorem wi_pos (k n : Int) : Fits (reckon (tabOf Tryz.prog extY conN true) 300 129 [.int .i64 k, .int .i64 n] [cmp false, cmp false]) (.int .i64 (k.tmod n)) [(decide (k.tmod n < 0), false), (decide (n = 0), false)] := ⟨by kernel_rfl, by kernel_rfl, by kernel_rfl, by kernel_rfl⟩
theorem within_calls {k n : Int} (h : 1 ≤ n ∧ n ≤ 268435456) (w : World) : Calls Tryz.prog 129 #[.int .i64 k, .int .i64 n] w fun e w' => e = .returned (.int .i64 (k % n)) ∧ Tidy w w' := by
  have hz : decide (n = 0) = false := decide_eq_false (by omega)
  have b := Int.emod_nonneg k (show n ≠ 0 by omega)
  have c := Int.emod_lt_of_pos k (show 0 < n by omega)
  have e : k.tmod n = if 0 ≤ k ∨ n ∣ k then k % n else k % n - n := by
    rw [Int.tmod_eq_emod]
    split
    · omega
    · rw [show ((n.natAbs : Nat) : Int) = n by omega]
  by_cases d : k.tmod n < 0
  · have v : IntKind.i64.wrap (k.tmod n + n) = k % n := by
      rw [e] at d ⊢
      split at d
      · omega
      · rename_i g
        rw [if_neg g, wrap_i64' (by omega) (by omega)]
        omega
    have M := fits_calls (tabY_ok conN_ok) (wi_neg k n) (okPC (decide_eq_true d) (okP1 hz)) (by rfl) (by rfl) w
    rw [v] at M
    exact M
  · have v : k.tmod n = k % n := by
      rw [e] at d ⊢
      split at d
      · rename_i g
        rw [if_pos g]
      · omega
    have M := fits_calls (tabY_ok conN_ok) (wi_pos k n) (okPC (decide_eq_false d) (okP1 hz)) (by rfl) (by rfl) w
    rw [v] at M
    exact M
def gWin : Ans := fun vals s => match vals with | [.int .i64 k, .int .i64 n] => some (.int .i64 (k % n), s, [(decide (1 ≤ n ∧ n ≤ 268435456), true)]) | _ => none
theorem gWin_ok : AnsOk 129 gWin := by
  intro vals s v s' lg h hl w
  unfold gWin at h
  split at h
  · cases h
    exact within_calls (of_decide_eq_true (hl _ (List.mem_singleton.2 rfl))) w
  · cases h
def conTD : Con := alt 129 gWin (alt 150 gCosi conN)
theorem conTD_ok : ConOk conTD := alt_ok Tryz.func129 rfl gWin_ok (alt_ok Tryz.func150 rfl gCosi_ok conN_ok)
def paV (k n : Int) : Value := .agg #[.int .i64 k, .int .i64 n]
def n1L (n : Int) (d : Bool) : Bool × Bool := (decide (n < 1), d)
def nmL (n : Int) (d : Bool) : Bool × Bool := (decide (n > 67108864), d)
def wL (n : Int) : Bool × Bool := (decide (1 ≤ n ∧ n ≤ 268435456), true)
theorem po_low (k n : Int) : Fits (reckon (tabOf Tryz.prog extY conTD true) 300 105 [.int .i64 k, .int .i64 n] [cmp true]) (.tuple #[paV 0 0, errF 1]) [n1L n true] := ⟨by kernel_rfl, by kernel_rfl, by kernel_rfl, by kernel_rfl⟩
theorem po_high (k n : Int) : Fits (reckon (tabOf Tryz.prog extY conTD true) 300 105 [.int .i64 k, .int .i64 n] [cmp false, cmp true]) (.tuple #[paV 0 0, errF 1]) [nmL n true, n1L n false] := ⟨by kernel_rfl, by kernel_rfl, by kernel_rfl, by kernel_rfl⟩
theorem po_in (k n : Int) : Fits (reckon (tabOf Tryz.prog extY conTD true) 300 105 [.int .i64 k, .int .i64 n] [cmp false, cmp false]) (.tuple #[paV (k % n) n, .nilIface]) [wL n, nmL n false, n1L n false] := ⟨by kernel_rfl, by kernel_rfl, by kernel_rfl, by kernel_rfl⟩
/-- how many parts may be -/
abbrev badP (n : Int) : Prop := n < 1 ∨ 67108864 < n
theorem po_calls (k n : Int) (w : World) : Calls Tryz.prog 105 #[.int .i64 k, .int .i64 n] w fun e w' => e = .returned (.tuple #[if badP n then paV 0 0 else paV (k % n) n, if badP n then errF 1 else .nilIface]) ∧ Tidy w w' := by
  by_cases h1 : n < 1
  · rw [if_pos (.inl h1), if_pos (.inl h1)]
    exact fits_calls (tabY_ok conTD_ok) (po_low k n) (okP1 (decide_eq_true h1)) (by rfl) (by rfl) w
  · by_cases h2 : n > 67108864
    · rw [if_pos (.inr h2), if_pos (.inr h2)]
      exact fits_calls (tabY_ok conTD_ok) (po_high k n) (okPC (decide_eq_true h2) (okP1 (decide_eq_false h1))) (by rfl) (by rfl) w
    · have hb : ¬ badP n := fun h => h.elim h1 h2
      rw [if_neg hb, if_neg hb]
      exact fits_calls (tabY_ok conTD_ok) (po_in k n) (okPC (decide_eq_true (by omega)) (okPC (decide_eq_false h2) (okP1 (decide_eq_false h1)))) (by rfl) (by rfl) w
/-- told ahead whether it is an error -/
def gPo : Ans := fun vals s =>
  match vals, s with
  | [.int .i64 k, .int .i64 n], .inr (.inr (.inr (.inl d))) :: s' =>
    match d with
    | true => some (.tuple #[paV 0 0, errF 1], s', [(decide (badP n), true)])
    | false => some (.tuple #[paV (k % n) n, .nilIface], s', [(decide (badP n), false)])
  | _, _ => none
theorem gPo_ok : AnsOk 105 gPo := by
  intro vals s v s' lg h hl w
  unfold gPo at h
  split at h
  · rename_i k n d s2
    have M := po_calls k n w
    split at h
    · cases h
      have h1 := of_decide_eq_true (hl _ (List.mem_singleton.2 rfl))
      rw [if_pos h1, if_pos h1] at M
      exact M
    · cases h
      have h1 := of_decide_eq_false (hl _ (List.mem_singleton.2 rfl))
      rw [if_neg h1, if_neg h1] at M
      exact M
  · cases h
/-! ### a point -/
def mT4 (k : Int) : Int := IntKind.i64.wrap (4 * k)
def m4n (k n : Int) : Int := IntKind.i64.wrap (mT4 k - n)
def lC (k n : Int) : Bool × Bool := (decide (inT (mT4 k) (mT4 n)), true)
def lST (k n : Int) : Bool × Bool := (decide (inT (m4n k n % mT4 n) (mT4 n)), true)
def cV (k n : Int) : Int := Go.Tu.patC (mT4 k).toNat (mT4 n).toNat
def sV (k n : Int) : Int := Go.Tu.patC (m4n k n % mT4 n).toNat (mT4 n).toNat
theorem pc_fits (k n : Int) : Fits (reckon (tabOf Tryz.prog extY conTD true) 300 130 [paV k n] []) (.int .u64 (cV k n)) [lC k n] := ⟨by kernel_rfl, by kernel_rfl, by kernel_rfl, by kernel_rfl⟩
theorem ps_fits (k n : Int) : Fits (reckon (tabOf Tryz.prog extY conTD true) 300 131 [paV k n] []) (.int .u64 (sV k n)) [lST k n, wL (mT4 n)] := ⟨by kernel_rfl, by kernel_rfl, by kernel_rfl, by kernel_rfl⟩
/-- within a turn -/
abbrev inK (k n : Int) : Prop := 0 ≤ k ∧ k < n ∧ n ≤ 67108864
def coI (k n : Int) : Int := Go.Tu.cosT k.toNat n.toNat
def siI (k n : Int) : Int := Go.Tu.sinT k.toNat n.toNat
theorem mT4_eq {k : Int} (h : -67108864 ≤ k ∧ k ≤ 67108864) : mT4 k = 4 * k := by
  unfold mT4
  rw [wrap_i64' (by omega) (by omega)]
theorem pc_calls {k n : Int} (h : inK k n) (w : World) : Calls Tryz.prog 130 #[paV k n] w fun e w' => e = .returned (.int .u64 (coI k n)) ∧ Tidy w w' := by
  obtain ⟨h1, h2, h3⟩ := h
  have ek := mT4_eq (k := k) ⟨by omega, by omega⟩
  have en := mT4_eq (k := n) ⟨by omega, by omega⟩
  have e : cV k n = coI k n := by
    unfold cV coI Go.Tu.cosT
    rw [ek, en, Nat.mod_eq_of_lt (show k.toNat < n.toNat by omega), show (4 * k).toNat = 4 * k.toNat by omega, show (4 * n).toNat = 4 * n.toNat by omega]
  have M := fits_calls (tabY_ok conTD_ok) (pc_fits k n) (okP1 (decide_eq_true (by rw [ek, en]; exact ⟨by omega, by omega, by omega, by omega⟩))) (by rfl) (by rfl) w
  rw [e] at M
  exact M
theorem ps_calls {k n : Int} (h : inK k n) (w : World) : Calls Tryz.prog 131 #[paV k n] w fun e w' => e = .returned (.int .u64 (siI k n)) ∧ Tidy w w' := by
  obtain ⟨h1, h2, h3⟩ := h
  have ek := mT4_eq (k := k) ⟨by omega, by omega⟩
  have en := mT4_eq (k := n) ⟨by omega, by omega⟩
  have ew : m4n k n = 4 * k - n := by
    unfold m4n
    rw [ek, wrap_i64' (by omega) (by omega)]
  have er : (4 * k - n) % (4 * n) = (((4 * k.toNat + 3 * n.toNat) % (4 * n.toNat) : Nat) : Int) := by
    rw [Int.natCast_emod, show (4 * k - n) = ((4 * k.toNat + 3 * n.toNat : Nat) : Int) - 4 * n by omega, show ((4 * n.toNat : Nat) : Int) = 4 * n by omega, Int.sub_emod_right]
  have b : (4 * k.toNat + 3 * n.toNat) % (4 * n.toNat) < 4 * n.toNat := Nat.mod_lt _ (by omega)
  have e : sV k n = siI k n := by
    unfold sV siI Go.Tu.sinT
    rw [ew, en, er, Nat.mod_eq_of_lt (show k.toNat < n.toNat by omega), Int.toNat_natCast, show (4 * n).toNat = 4 * n.toNat by omega]
  have M := fits_calls (tabY_ok conTD_ok) (ps_fits k n) (okPC (decide_eq_true (by rw [ew, en, er]; exact ⟨by omega, by omega, by omega, by omega⟩)) (okP1 (decide_eq_true (by rw [en]; omega)))) (by rfl) (by rfl) w
  rw [e] at M
  exact M
def gPc (f : Int → Int → Int) : Ans := fun vals s => match vals with | [.agg ⟨[.int .i64 k, .int .i64 n]⟩] => some (.int .u64 (f k n), s, [(decide (inK k n), true)]) | _ => none
theorem gPc_ok {f : Nat} {g : Int → Int → Int} (hf : ∀ k n : Int, inK k n → ∀ w, Calls Tryz.prog f #[paV k n] w fun e w' => e = .returned (.int .u64 (g k n)) ∧ Tidy w w') : AnsOk f (gPc g) := by
  intro vals s v s' lg h hl w
  unfold gPc at h
  split at h
  · cases h
    exact hf _ _ (of_decide_eq_true (hl _ (List.mem_singleton.2 rfl))) w
  · cases h
def conTE : Con := alt 105 gPo (alt 130 (gPc coI) (alt 131 (gPc siI) conN))
theorem conTE_ok : ConOk conTE := alt_ok Tryz.func105 rfl gPo_ok (alt_ok Tryz.func130 rfl (gPc_ok fun _ _ h => pc_calls h) (alt_ok Tryz.func131 rfl (gPc_ok fun _ _ h => ps_calls h) conN_ok))
/-- a point as a pair of patterns -/
def ptV (c s : Int) : Value := .agg #[.int .u64 c, .int .u64 s]
def kL (k n : Int) : Bool × Bool := (decide (inK k n), true)
def bL (n : Int) (d : Bool) : Bool × Bool := (decide (badP n), d)
theorem pp_fits (k n : Int) : Fits (reckon (tabOf Tryz.prog extY conTE true) 300 106 [paV k n] []) (ptV (coI k n) (siI k n)) [kL k n, kL k n] := ⟨by kernel_rfl, by kernel_rfl, by kernel_rfl, by kernel_rfl⟩
theorem pp_calls {k n : Int} (h : inK k n) (w : World) : Calls Tryz.prog 106 #[paV k n] w fun e w' => e = .returned (ptV (coI k n) (siI k n)) ∧ Tidy w w' :=
  fits_calls (tabY_ok conTE_ok) (pp_fits k n) (okPC (decide_eq_true h) (okP1 (decide_eq_true h))) (by rfl) (by rfl) w
def gPp : Ans := fun vals s => match vals with | [.agg ⟨[.int .i64 k, .int .i64 n]⟩] => some (ptV (coI k n) (siI k n), s, [(decide (inK k n), true)]) | _ => none
theorem gPp_ok : AnsOk 106 gPp := by
  intro vals s v s' lg h hl w
  unfold gPp at h
  split at h
  · cases h
    exact pp_calls (of_decide_eq_true (hl _ (List.mem_singleton.2 rfl))) w
  · cases h
def conTF : Con := alt 106 gPp conTE
theorem conTF_ok : ConOk conTF := alt_ok Tryz.func106 rfl gPp_ok conTE_ok
theorem ro_bad (k n : Int) : Fits (reckon (tabOf Tryz.prog extY conTF true) 300 94 [.int .i64 k, .int .i64 n] [cmp true]) (.tuple #[ptV 0 0, errF 1]) [bL n true] := ⟨by kernel_rfl, by kernel_rfl, by kernel_rfl, by kernel_rfl⟩
theorem ro_in (k n : Int) : Fits (reckon (tabOf Tryz.prog extY conTF true) 300 94 [.int .i64 k, .int .i64 n] [cmp false]) (.tuple #[ptV (coI (k % n) n) (siI (k % n) n), .nilIface]) [kL (k % n) n, bL n false] := ⟨by kernel_rfl, by kernel_rfl, by kernel_rfl, by kernel_rfl⟩
theorem in_k {k n : Int} (h : ¬ badP n) : inK (k % n) n := by
  unfold badP at h
  have b := Int.emod_nonneg k (show n ≠ 0 by omega)
  have c := Int.emod_lt_of_pos k (show 0 < n by omega)
  exact ⟨b, c, by omega⟩
/-- an answer and an error, told ahead whether it is one -/
def gTu (z : Value) (f : Int → Int → Value) : Ans := fun vals s =>
  match vals, s with
  | [.int .i64 k, .int .i64 n], .inr (.inr (.inr (.inl d))) :: s' =>
    match d with
    | true => some (.tuple #[z, errF 1], s', [(decide (badP n), true)])
    | false => some (.tuple #[f k n, .nilIface], s', [(decide (badP n), false)])
  | _, _ => none
theorem gTu_ok {f : Nat} {z : Value} {g : Int → Int → Value} (h1 : ∀ k n : Int, badP n → ∀ w, Calls Tryz.prog f #[.int .i64 k, .int .i64 n] w fun e w' => e = .returned (.tuple #[z, errF 1]) ∧ Tidy w w')
    (h2 : ∀ k n : Int, ¬ badP n → ∀ w, Calls Tryz.prog f #[.int .i64 k, .int .i64 n] w fun e w' => e = .returned (.tuple #[g k n, .nilIface]) ∧ Tidy w w') : AnsOk f (gTu z g) := by
  intro vals s v s' lg h hl w
  unfold gTu at h
  split at h
  · rename_i k n d s2
    split at h
    · cases h
      exact h1 k n (of_decide_eq_true (hl _ (List.mem_singleton.2 rfl))) w
    · cases h
      exact h2 k n (of_decide_eq_false (hl _ (List.mem_singleton.2 rfl))) w
  · cases h
def rootV (k n : Int) : Value := ptV (coI (k % n) n) (siI (k % n) n)
theorem root_ok : AnsOk 94 (gTu (ptV 0 0) rootV) := gTu_ok
  (fun k n h w => fits_calls (tabY_ok conTF_ok) (ro_bad k n) (okP1 (decide_eq_true h)) (by rfl) (by rfl) w)
  (fun k n h w => fits_calls (tabY_ok conTF_ok) (ro_in k n) (okPC (decide_eq_true (in_k h)) (okP1 (decide_eq_false h))) (by rfl) (by rfl) w)
end Go.Proofs.YtjkgnbdeklploaaGreatDoor
namespace Go.KRun
open Go.RowKit
def reckonAt (T : Tab) (h0 : Hp) (n : Nat) (f : Nat) (vals : List Value) (s : List Dec) : Option (Value × Hp × List Dec × Lg) := callBy T (evC T n false) f vals h0 s ⟨[], [], []⟩
theorem fitsAt_calls {T : Tab} (hT : TabOk T) {h0 : Hp} {n f : Nat} {vals : List Value} {s : List Dec} {v : Value} {cs : Log} (hF : Fits (reckonAt T h0 n f vals s) v cs) (hcs : okLog cs) (hvals : (vals.all (lt h0.n)) = true) (hv : lt 0 v = true) {m : Mp} {w : World} (E : Emb m w.heap.size h0 w) :
    Calls T.P f (vals.map (mv m)).toArray w fun e w' => e = .returned v ∧ Tidy w w' := by
  obtain ⟨h1, h2, h3, h4⟩ := hF
  cases hr : reckonAt T h0 n f vals s with
  | none => rw [hr] at h1; cases h1
  | some r =>
    rw [hr] at h1 h2 h3 h4
    simp only [Option.map_some, Option.some.injEq] at h1 h2 h3 h4
    obtain ⟨v', h', s', L⟩ := r
    simp only at h1 h2 h3 h4
    subst h1
    obtain ⟨_, _, h5⟩ := callBy_ok hT (evC_ok hT n).1 _ _ _ _ _ _ _ _ _ hr ⟨by rw [h2]; exact hcs, all_eq _ h3, all_eq _ h4⟩
    refine (h5 _ _ w E (List.all_eq_true.1 hvals)).mono fun en w' he => ?_
    obtain ⟨m', rfl, C⟩ := he
    exact ⟨by rw [mv_still hv], C.below, fun k h1 h2 => C.emb.ice k h1 h2⟩
/-- the same table, where new blocks are put in order by themselves -/
def tabA (T : Tab) : Tab := { T with auto := true }
theorem tabA_ok {T : Tab} (h : TabOk T) : TabOk (tabA T) := ⟨h.mixed, h.ext, h.con, h.fn, h.hc⟩
/-- What is to be reckoned of a call: its answer, what lies in block k behind it, the tests logged; and that all else that was logged is so. -/
def FitsB (r : Option (Value × Hp × List Dec × Lg)) (k : Nat) (v : Value) (cs : List Value) (ty : TypeId) (lg : Log) : Prop :=
  r.map (fun r => (r.1, r.2.1.blk? k, r.2.2.2.cs, r.2.2.2.es.map Prod.fst, r.2.2.2.bs.map Prod.fst)) = some (r.elim (v, none, lg, [], []) fun r => (v, some (cs, ty), lg, r.2.2.2.es.map Prod.snd, r.2.2.2.bs.map Prod.snd))
theorem fits_row1 {T : Tab} (hT : TabOk T) {h0 : Hp} (hr : h0.rows) {n f : Nat} {vals : List Value} {sc : List Dec} {v : Value} {k : Nat} {cs : List Value} {ty : TypeId} {lg : Log} (hF : FitsB (reckonAt T h0 n f vals sc) k v cs ty lg) (hlg : okLog lg)
    (hcs : ∀ u ∈ cs, lt1 0 u = true) (hty : ro ty = false) (hvals : ∀ v ∈ vals, lt h0.n v = true) (hv0 : oc [k] v = true)
    {m : Mp} {B : Nat} {h : Hp} {w : World} (E : Emb m B h w) {s : Nat → Nat} (hf : h0.fits s h) :
    Calls T.P f ((vals.map (rn s)).map (mv m)).toArray w fun e w' => ∃ m', e = .returned (mv m' (rn (fun _ => h.n) v)) ∧ Came m B h w (rn (fun _ => h.n) v) (h.push cs ty) m' w' := by
  have E0 := E.small hr hf
  have ev : (vals.map (rn s)).map (mv m) = vals.map (mv fun i => m (s i)) := by
    rw [List.map_map]
    exact List.map_congr_left fun y _ => mv_rn m s y
  rw [ev]
  unfold FitsB at hF
  cases hrr : reckonAt T h0 n f vals sc with
  | none => rw [hrr] at hF; cases hF
  | some r =>
    rw [hrr] at hF
    simp only [Option.map_some, Option.elim_some, Option.some.injEq, Prod.mk.injEq] at hF
    obtain ⟨v', h', s', L⟩ := r
    simp only at hF
    obtain ⟨rfl, hblk, h2, h3, h4⟩ := hF
    obtain ⟨_, _, h5⟩ := callBy_ok hT (evC_ok hT n).1 _ _ _ _ _ _ _ _ _ hrr ⟨by rw [h2]; exact hlg, all_eq _ h3, all_eq _ h4⟩
    refine (h5 _ _ w E0 hvals).mono fun en w' he => ?_
    obtain ⟨m1, rfl, C⟩ := he
    have td : Tidy w w' := ⟨C.below, fun k h1 h2 => C.emb.ice k h1 h2⟩
    obtain ⟨E', hb⟩ := clean_emb E td
    have hlow : w.heap.size ≤ (m1 k).1 := C.emb.low k _ hblk hty
    have hlie : lie w' (m1 k) (cs.map (mv1 m)) ty := by
      obtain ⟨r', z, l0, l1, l2⟩ := C.emb.lies k _ hblk (tomb_ro hty)
      have e : cs.map (mv1 m1) = cs.map (mv1 m) := KRun.map_still hcs
      simp only [e] at l0 l1
      exact ⟨r', z, l0, l1, l2⟩
    have Ea := E'.adopt cs ty hty (fun u hu => lt1_mono (Nat.zero_le _) (hcs u hu)) hlie (Nat.le_trans E.base hlow) (fun b x hbx hx heq => by
      have := E.here hbx (tomb_ro hx)
      omega) (fun b x hbx hx hf => by
      have := E.at_ hbx hx hf
      omega)
    have e1 : mv m1 v' = mv (upd m h.n (m1 k)) (rn (fun _ => h.n) v') := by
      rw [mv_rn]
      refine mv_on (fun b hb => ?_) hv0
      rw [List.mem_singleton.1 hb]
      simp [upd]
    exact ⟨upd m h.n (m1 k), by rw [e1], upd_agree _ _ _, Ea, hb, Nat.le_succ _, oc_ren (bs := [k]) (fun b hb => by show h.n < h.n + 1; omega) hv0⟩
/-- a call that begins with rows that are only read; no block of its own is kept, its answer holds no address -/
theorem fits_row0 {T : Tab} (hT : TabOk T) {h0 : Hp} (hr : h0.rows) {n f : Nat} {vals : List Value} {sc : List Dec} {v : Value} {lg : Log} (hF : Fits (reckonAt T h0 n f vals sc) v lg) (hlg : okLog lg)
    (hvals : ∀ v ∈ vals, lt h0.n v = true) (hv0 : lt 0 v = true)
    {m : Mp} {B : Nat} {h : Hp} {w : World} (E : Emb m B h w) {s : Nat → Nat} (hf : h0.fits s h) :
    Calls T.P f ((vals.map (rn s)).map (mv m)).toArray w fun e w' => e = .returned v ∧ Came m B h w v h m w' := by
  have E0 := E.small hr hf
  have ev : (vals.map (rn s)).map (mv m) = vals.map (mv fun i => m (s i)) := by
    rw [List.map_map]
    exact List.map_congr_left fun y _ => mv_rn m s y
  rw [ev]
  refine (fitsAt_calls hT hF hlg (List.all_eq_true.2 hvals) hv0 E0).mono fun en w' he => ?_
  obtain ⟨E', hb⟩ := clean_emb E he.2
  exact ⟨he.1, Agree.refl _ _, E', hb, Nat.le_refl _, lt_mono (Nat.zero_le _) hv0⟩
/-- What is to be reckoned of a call where no letters are: what is logged is so, too. -/
def FitsC (r : Option (Value × Hp × List Dec × Lg)) (v : Value) : Prop :=
  r.map (fun r => r.1) = some v ∧ r.map (fun r => okB r.2.2.2.cs) = some true ∧ r.map (fun r => r.2.2.2.es.map Prod.fst) = r.map (fun r => r.2.2.2.es.map Prod.snd) ∧ r.map (fun r => r.2.2.2.bs.map Prod.fst) = r.map (fun r => r.2.2.2.bs.map Prod.snd)
theorem FitsC.fits {r : Option (Value × Hp × List Dec × Lg)} {v : Value} (h : FitsC r v) : ∃ cs, okLog cs ∧ Fits r v cs := by
  obtain ⟨h1, h2, h3, h4⟩ := h
  cases r with
  | none => cases h1
  | some r =>
    simp only [Option.map_some, Option.some.injEq] at h2
    exact ⟨r.2.2.2.cs, okB_ok h2, h1, rfl, h3, h4⟩
theorem fitsC_calls {T : Tab} (hT : TabOk T) {n f : Nat} {vals : List Value} {s : List Dec} {v : Value} (hF : FitsC (reckon T n f vals s) v) (hvals : (vals.all (lt 0)) = true) (hv : lt 0 v = true) (w : World) :
    Calls T.P f vals.toArray w fun e w' => e = .returned v ∧ Tidy w w' := by
  obtain ⟨cs, h1, h2⟩ := hF.fits
  exact fits_calls hT h2 h1 hvals hv w
end Go.KRun
namespace Go.Proofs.YtjkgnbdeklploaaGreatDoor
open Go.KRun Go.Wd Go.Pt Go.Rn
set_option maxRecDepth 100000
abbrev PR := Int × Int
/-! ### the points -/
def ptT : Nat → List PR
  | 2 => [(4607182418800017408, 0), (13830554455654793216, 0)]
  | 3 => [(4607182418800017408, 0), (13826050856027422720, 4605975682916830378), (13826050856027422720, 13829347719771606186)]
  | 4 => [(4607182418800017408, 0), (0, 4607182418800017408), (13830554455654793216, 0), (0, 13830554455654793216)]
  | 5 => [(4607182418800017408, 0), (4599238375200778576, 4606741575090066687), (13828834233668859048, 4603469518431672926), (13828834233668859048, 13826841555286448734), (4599238375200778576, 13830113611944842495)]
  | 7 => [(4607182418800017408, 0), (4603791116423917009, 4605217331491495499), (13820557218707293570, 4606956589509306729), (13829662462515567729, 4601487774501153729), (13829662462515567729, 13824859811355929537), (13820557218707293570, 13830328626364082537), (4603791116423917009, 13828589368346271307)]
  | 11 => [(4607182418800017408, 0), (4605752557739241658, 4603044879113345035), (4601155071508943542, 4606368456175922195), (13817667489566246107, 4607090738498913007), (13827445717514803335, 4604982406548170913), (13830189600796921943, 4598746862469942719), (13830189600796921943, 13822118899324718527), (13827445717514803335, 13828354443402946721), (13817667489566246107, 13830462775353688815), (4601155071508943542, 13829740493030698003), (4605752557739241658, 13826416915968120843)]
  | 13 => [(4607182418800017408, 0), (4606150698399645929, 4602043328335692924), (4603291891908677913, 4605587999208817618), (4593350003835682520, 4607116746176227177), (13823431650521275809, 4606597097149563207), (13828289241853144588, 4604148097458384772), (13830292722814369024, 4597790275782610367), (13830292722814369024, 13821162312637386175), (13828289241853144588, 13827520134313160580), (13823431650521275809, 13829969134004339015), (4593350003835682520, 13830488783031002985), (4603291891908677913, 13828960036063593426), (4606150698399645929, 13825415365190468732)]
  | _ => []
def ptAll : Bool := [2, 3, 4, 5, 7, 11, 13].all fun n => (List.range n).all fun k => decide (coI ((k : Int) % (n : Int)) (n : Int) = ((ptT n).getD k (0, 0)).1 ∧ siI ((k : Int) % (n : Int)) (n : Int) = ((ptT n).getD k (0, 0)).2)
theorem pt_all : ptAll = true := by kernel_rfl
theorem ptT_mem {n k : Nat} {p : PR} (h : (ptT n)[k]? = some p) : n ∈ [2, 3, 4, 5, 7, 11, 13] ∧ k < n := by
  unfold ptT at h
  split at h <;> first | (cases h; done) | (have := (List.getElem?_eq_some_iff.1 h).1; exact ⟨by decide, by simpa using this⟩)
theorem pt_is {n k : Nat} {p : PR} (h : (ptT n)[k]? = some p) : coI ((k : Int) % (n : Int)) (n : Int) = p.1 ∧ siI ((k : Int) % (n : Int)) (n : Int) = p.2 := by
  obtain ⟨h1, h2⟩ := ptT_mem h
  have h3 := List.all_eq_true.1 (List.all_eq_true.1 pt_all n h1) k (List.mem_range.2 h2)
  have h4 := of_decide_eq_true h3
  have e : (ptT n).getD k (0, 0) = p := by simp [List.getD, h]
  rw [e] at h4
  exact h4
def gRt : Ans := fun vals s =>
  match vals with
  | [.int .i64 (.ofNat k), .int .i64 (.ofNat n)] =>
    match (ptT n)[k]? with
    | some p => some (.tuple #[pX p.1 p.2, .nilIface], s, [])
    | none => none
  | _ => none
theorem gRt_ok : AnsOk 94 gRt := by
  intro vals s v s' lg h hl w
  unfold gRt at h
  split at h
  · rename_i k n
    split at h
    · rename_i p hp
      cases h
      obtain ⟨e1, e2⟩ := pt_is hp
      have hm := (ptT_mem hp).1
      have hb : ¬ badP (n : Int) := by
        unfold badP
        simp only [List.mem_cons, List.not_mem_nil, or_false] at hm
        omega
      have r := root_ok [.int .i64 (k : Int), .int .i64 (n : Int)] (cmp false :: s) (.tuple #[rootV k n, .nilIface]) s [(decide (badP (n : Int)), false)] rfl (okP1 (decide_eq_false hb)) w
      have e3 : rootV (k : Int) (n : Int) = pX p.1 p.2 := by
        unfold rootV ptV pX
        rw [e1, e2]
      rw [e3] at r
      exact r
    · cases h
  · cases h
/-! ### steps -/
def ad2 (x y : PR) : PR := (suP 0 x.1 y.1, suP 0 x.2 y.2)
def sb2 (x y : PR) : PR := (suP 0 x.1 (ng y.1), suP 0 x.2 (ng y.2))
def mo2 (x : PR) (p : Int) (c : PR) : PR := (fmP 0 x.1 p c.1, fmP 0 x.2 p c.2)
def tn2 (x : PR) (t : Bool) : PR := (bif t then x.2 else ng x.2, bif t then ng x.1 else x.1)
def up2 (x : PR) : Prop := U x.1 ∧ U x.2
theorem ad2_u {x y : PR} (hx : up2 x) (hy : up2 y) : up2 (ad2 x y) := ⟨su_U hx.1 hy.1, su_U hx.2 hy.2⟩
theorem sb2_u {x y : PR} (hx : up2 x) (hy : up2 y) : up2 (sb2 x y) := ⟨su_U hx.1 (ng_parts hy.1).1, su_U hx.2 (ng_parts hy.2).1⟩
theorem mo2_u {x c : PR} {p : Int} (hc : up2 c) : up2 (mo2 x p c) := ⟨fm_U _ _ _ hc.1, fm_U _ _ _ hc.2⟩
theorem tn2_u {x : PR} {t : Bool} (hx : up2 x) : up2 (tn2 x t) := by
  cases t
  · exact ⟨(ng_parts hx.2).1, hx.1⟩
  · exact ⟨hx.2, (ng_parts hx.1).1⟩
/-- a step's flags, and what is logged of it -/
abbrev OpR := List Int × (Bool × Bool)
def opA (x y : PR) : OpR := ([orB (suF 0 x.1 y.1) (suF 0 x.2 y.2)], (decide (U x.1 ∧ U x.2 ∧ U y.1 ∧ U y.2), true))
def opS (x y : PR) : OpR := ([orB (suF 0 x.1 (ng y.1)) (suF 0 x.2 (ng y.2))], (decide (U x.1 ∧ U x.2 ∧ U y.1 ∧ U y.2), true))
def opM (x : PR) (p : Int) (c : PR) : OpR := ([orB (fmF 0 x.1 p c.1) (fmF 0 x.2 p c.2)], (decide (U x.1 ∧ U x.2 ∧ U p ∧ U c.1 ∧ U c.2), true))
def opT (x : PR) : OpR := ([], (decide (U x.1 ∧ U x.2), true))
def okO (o : OpR) : Prop := o.2.1 = o.2.2 ∧ ∀ f ∈ o.1, fl5 f
theorem opA_ok {x y : PR} (hx : up2 x) (hy : up2 y) : okO (opA x y) := ⟨decide_eq_true ⟨hx.1, hx.2, hy.1, hy.2⟩, fun f hf => by rw [List.mem_singleton.1 hf]; exact (or_same (suF_5 _ _ _) (suF_5 _ _ _)).2⟩
theorem opS_ok {x y : PR} (hx : up2 x) (hy : up2 y) : okO (opS x y) := ⟨decide_eq_true ⟨hx.1, hx.2, hy.1, hy.2⟩, fun f hf => by rw [List.mem_singleton.1 hf]; exact (or_same (suF_5 _ _ _) (suF_5 _ _ _)).2⟩
theorem opM_ok {x c : PR} {p : Int} (hx : up2 x) (hp : U p) (hc : up2 c) : okO (opM x p c) := ⟨decide_eq_true ⟨hx.1, hx.2, hp, hc.1, hc.2⟩, fun f hf => by rw [List.mem_singleton.1 hf]; exact (or_same (fmF_5 _ _ _ _) (fmF_5 _ _ _ _)).2⟩
theorem opT_ok {x : PR} (hx : up2 x) : okO (opT x) := ⟨decide_eq_true ⟨hx.1, hx.2⟩, fun f hf => by cases hf⟩
/-! ### a little transform: its answers, its steps in the program's order -/
def scanV : PR → List PR → PR
  | a, [] => a
  | a, s :: l => scanV (ad2 a s) l
def scanO : PR → List PR → List OpR
  | _, [] => []
  | a, s :: l => opA a s :: scanO (ad2 a s) l
def moV : PR → List PR → List Int → PR
  | a, s :: l, p :: ps => moV (mo2 s p a) l ps
  | a, _, _ => a
def wavO : PR → PR → List PR → List PR → List PR → List OpR
  | a, e, s :: ss, d :: ds, p :: ps => opM s p.1 a :: opM d p.2 e :: wavO (mo2 s p.1 a) (mo2 d p.2 e) ss ds ps
  | _, _, _, _, _ => []
def ptK (n h k : Nat) : List PR := (List.range h).map fun j => (ptT n).getD ((j + 1) * k % n) (0, 0)
section
variable (n h : Nat) (x0 : PR) (u v : List PR) (t : Bool)
def fyS : List PR := List.zipWith ad2 u v
def fyD : List PR := List.zipWith sb2 u v
def fyA (k : Nat) : PR := moV x0 (fyS u v) ((ptK n h k).map Prod.fst)
def fyB (k : Nat) : PR := moV (0, 0) (fyD u v) ((ptK n h k).map Prod.snd)
def fyE (k : Nat) : PR := tn2 (fyB n h u v k) (!t)
def fyAs : List PR := (List.range h).map fun k => fyA n h x0 u v (k + 1)
def fyEs : List PR := (List.range h).map fun k => fyE n h u v t (k + 1)
def fyV : List PR := scanV x0 (fyS u v) :: (List.zipWith ad2 (fyAs n h x0 u v) (fyEs n h u v t) ++ (List.zipWith sb2 (fyAs n h x0 u v) (fyEs n h u v t)).reverse)
def fyO1 : List OpR := List.zipWith opA u v ++ List.zipWith opS u v ++ scanO x0 (fyS u v)
def fyO2 : List OpR := (List.range h).flatMap fun k => wavO x0 (0, 0) (fyS u v) (fyD u v) (ptK n h (k + 1)) ++ [opT (fyB n h u v (k + 1))]
def fyP : List OpR := List.zipWith opA (fyAs n h x0 u v) (fyEs n h u v t)
def fyQ : List OpR := List.zipWith opS (fyAs n h x0 u v) (fyEs n h u v t)
end
/-- the first half behind the first number, and the second one, the last ahead -/
def uOf (xs : List PR) : List PR := (xs.drop 1).take (xs.length / 2)
def vOf (xs : List PR) : List PR := (xs.drop (xs.length / 2 + 1)).reverse
def x0Of (xs : List PR) : PR := xs.getD 0 (0, 0)
/-- the answers -/
def flV (xs : List PR) (t : Bool) : List PR :=
  match xs with
  | [a, b] => [ad2 a b, sb2 a b]
  | [a, b, c, d] => [ad2 (ad2 a c) (ad2 b d), ad2 (sb2 a c) (tn2 (sb2 b d) (!t)), sb2 (ad2 a c) (ad2 b d), sb2 (sb2 a c) (tn2 (sb2 b d) (!t))]
  | _ => fyV xs.length (xs.length / 2) (x0Of xs) (uOf xs) (vOf xs) t
/-- the steps; and what is logged more of them -/
def flO (xs : List PR) (t : Bool) : List OpR :=
  match xs with
  | [a, b] => [opA a b, opS a b]
  | [a, b, c, d] => [opA a c, opA b d, opS a c, opS b d, opT (sb2 b d), opA (ad2 a c) (ad2 b d), opA (sb2 a c) (tn2 (sb2 b d) (!t)), opS (ad2 a c) (ad2 b d), opS (sb2 a c) (tn2 (sb2 b d) (!t))]
  | _ => fyO1 (x0Of xs) (uOf xs) (vOf xs) ++ fyO2 xs.length (xs.length / 2) (x0Of xs) (uOf xs) (vOf xs) ++ fyP xs.length (xs.length / 2) (x0Of xs) (uOf xs) (vOf xs) t ++ fyQ xs.length (xs.length / 2) (x0Of xs) (uOf xs) (vOf xs) t
def flags (l : List OpR) : List Int := l.flatMap Prod.fst
def lgO (l : List OpR) : Log := (l.map Prod.snd).reverse
/-- so many closed truths -/
def tt (k : Nat) : Log := List.replicate k (true, true)
def ff (k : Nat) : Log := List.replicate k (false, false)
def flL (xs : List PR) (t : Bool) : Log :=
  match xs with
  | [_, _] => lgO (flO xs t)
  | [_, _, _, _] => tt 2 ++ lgO (flO xs t)
  | _ => tt 17 ++ lgO (fyQ xs.length (xs.length / 2) (x0Of xs) (uOf xs) (vOf xs) t) ++ lgO (fyQ xs.length (xs.length / 2) (x0Of xs) (uOf xs) (vOf xs) t) ++ lgO (fyP xs.length (xs.length / 2) (x0Of xs) (uOf xs) (vOf xs) t) ++ lgO (fyQ xs.length (xs.length / 2) (x0Of xs) (uOf xs) (vOf xs) t) ++ lgO (fyP xs.length (xs.length / 2) (x0Of xs) (uOf xs) (vOf xs) t) ++ lgO (fyO2 xs.length (xs.length / 2) (x0Of xs) (uOf xs) (vOf xs)) ++ tt 3 ++ ff 15 ++ lgO (fyO1 (x0Of xs) (uOf xs) (vOf xs))
def tnV2 (a b : Int) (t : Bool) : Value := pX (bif t then b else ng b) (bif t then ng a else a)
theorem ct2_calls (a b : Int) (t : Bool) (ha : U a) (hb : U b) (w : World) : Calls Tryz.prog 70 #[pX a b, .bool t] w fun r w' => r = .returned (tnV2 a b t) ∧ Tidy w w' := by
  have e : tnV2 a b t = tnV a b t := by cases t <;> rfl
  rw [e]
  exact ct_calls a b t ha hb w
/-- what is known of calls, for the program's little transforms -/
def conFl : Con := alt 68 (gXY caV) (alt 69 (gXY csV) (alt 97 (gXPX coV17) (alt 70 (gXB tnV2) (alt 94 gRt conN))))
theorem conFl_ok : ConOk conFl := alt_ok Tryz.func68 rfl (gXY_ok ca_calls) (alt_ok Tryz.func69 rfl (gXY_ok cs_calls) (alt_ok Tryz.func97 rfl (gXPX_ok mo17_calls) (alt_ok Tryz.func70 rfl (gXB_ok ct2_calls) (alt_ok Tryz.func94 rfl gRt_ok conN_ok))))
/-! ### rows of pairs -/
def prC (l : List PR) : List Value := l.flatMap fun x => [.int .u64 x.1, .int .u64 x.2]
/-- a row of pairs in a memory: only read -/
abbrev tPr : TypeId := 40 + dead
end Go.Proofs.YtjkgnbdeklploaaGreatDoor
namespace Go.KRun
open Go.RowKit
/-- one's own blocks but one, as they are -/
def frB (b : Nat) (m : Mp) (h : Hp) (w : World) : List Value := (List.range h.n).filterMap fun c =>
  match Nat.beq c b, h.blk? c with
  | false, some y =>
    match ro y.2, w.heap[(m c).1]? with
    | false, some (.cells cs t _) => some (.func (.func (m c).1) ⟨[.int .i64 (t : Nat)]⟩ cs)
    | _, _ => none
  | _, _ => none
theorem frB_mem {b : Nat} {m : Mp} {h : Hp} {w : World} {v : Value} (hv : v ∈ frB b m h w) : ∃ c y cs t z, c ≠ b ∧ h.blk? c = some y ∧ ro y.2 = false ∧ w.heap[(m c).1]? = some (.cells cs t z) ∧ v = .func (.func (m c).1) ⟨[.int .i64 (t : Nat)]⟩ cs := by
  unfold frB at hv
  obtain ⟨c, _, h1⟩ := List.mem_filterMap.1 hv
  split at h1
  · rename_i y hcb hy
    split at h1
    · rename_i cs t z hr hw
      exact ⟨c, y, cs, t, z, (fun he => by rw [he, Nat.beq_refl] at hcb; cases hcb), hy, hr, hw, (Option.some.inj h1).symm⟩
    · cases h1
  · cases h1
theorem mem_frB {b : Nat} {m : Mp} {B : Nat} {h : Hp} {w : World} (E : Emb m B h w) {c : Nat} {y : List Value × TypeId} (hne : c ≠ b) (hc : h.blk? c = some y) (hy : ro y.2 = false) : ∃ cs t, w.heap[(m c).1]? = some (.cells cs t (0, 0)) ∧ .func (.func (m c).1) ⟨[.int .i64 (t : Nat)]⟩ cs ∈ frB b m h w := by
  obtain ⟨r, z, _, h1, h2⟩ := E.lies c y hc (tomb_ro hy)
  obtain ⟨z1, z2⟩ := h2 hy
  refine ⟨_, z.1, by rw [h1, z2], ?_⟩
  unfold frB
  refine List.mem_filterMap.2 ⟨c, List.mem_range.2 (Hp.blk_lt hc), ?_⟩
  have hb : Nat.beq c b = false := by
    cases hq : Nat.beq c b
    · rfl
    · exact absurd (Nat.eq_of_beq_eq_true hq) hne
  simp only [hb, hc, hy, h1]
theorem frB_at {b : Nat} {m : Mp} {B : Nat} {h : Hp} {w : World} (E : Emb m B h w) : frAt w (frB b m h w) := by
  intro v hv k t cs hf
  obtain ⟨c, y, cs', t', z, _, h1, h2, h3, rfl⟩ := frB_mem hv
  obtain ⟨r, z', _, h4, h5⟩ := E.lies c y h1 (tomb_ro h2)
  have hz := (h5 h2).2
  rw [h4] at h3
  unfold frV at hf
  simp only [Option.some.injEq, Prod.mk.injEq, Int.toNat_natCast] at hf
  obtain ⟨rfl, rfl, rfl⟩ := hf
  cases h3
  rw [h4, hz]
theorem frB_still {b : Nat} {m' : Mp} {m : Mp} {h : Hp} {w : World} : (frB b m h w).map (mv1 m') = frB b m h w := by
  refine (List.map_congr_left fun v hv => ?_).trans (List.map_id' _)
  obtain ⟨c, y, cs', t', z, _, h1, h2, h3, rfl⟩ := frB_mem hv
  rfl
theorem frB_own {b : Nat} {m : Mp} {h : Hp} {w : World} {g k : Nat} (hf : fpt g (frB b m h w) fmT k) : ∃ c y, c ≠ b ∧ h.blk? c = some y ∧ ro y.2 = false ∧ (m c).1 = k := by
  rcases hf with ⟨hf, _⟩ | ⟨_, v, hv, t, cs, hf⟩
  · exact absurd rfl hf
  · obtain ⟨c, y, cs', t', z, h0, h1, h2, h3, rfl⟩ := frB_mem hv
    unfold frV at hf
    simp only [Option.some.injEq, Prod.mk.injEq] at hf
    exact ⟨c, y, h0, h1, h2, hf.1⟩
/-- one block of the caller's, and all else that is the caller's own -/
def hF1 (L : List Value) (ty : TypeId) (F : List Value) : Hp := ⟨2, [(L, ty), (F, fmT)]⟩
def mF1 (k : Nat × Nat) : Mp := fun i => if i = 1 then k else (0, 0)
theorem blkF1 {L F : List Value} {ty : TypeId} {i : Nat} {x : List Value × TypeId} (h : (hF1 L ty F).blk? i = some x) : (i = 0 ∧ x = (F, fmT)) ∨ (i = 1 ∧ x = (L, ty)) := by
  have : i < 2 := Hp.blk_lt h
  have : i = 0 ∨ i = 1 := by omega
  rcases this with rfl | rfl
  · exact .inl ⟨rfl, (Option.some.inj h).symm⟩
  · exact .inr ⟨rfl, (Option.some.inj h).symm⟩
theorem fm_facts : tomb fmT = true ∧ ro fmT = true ∧ spK fmT = true ∧ ab fmT = true := ⟨rfl, rfl, rfl, rfl⟩
theorem Emb.frame {m : Mp} {B : Nat} {h : Hp} {w : World} (E : Emb m B h w) {b : Nat} {L : List Value} {ty : TypeId} (hb : h.blk? b = some (L, ty)) (own : ro ty = false) (hL : ∀ v ∈ L, lt1 0 v = true) : Emb (mF1 (m b)) B (hF1 L ty (frB b m h w)) w := by
  obtain ⟨o4, o5, o6, o7⟩ := fm_facts
  refine ⟨rfl, fun i x hi ht => ?_, fun i x hi hx => ?_, fun i x hi ht hr => ?_, fun i j x y hi hj hx hy he => ?_, fun i x hi v hv => ?_, E.base, E.ice, fun i x hi hx => ?_⟩
  · rcases blkF1 hi with ⟨rfl, rfl⟩ | ⟨rfl, rfl⟩
    · rw [o4] at ht; cases ht
    · have := E.lies b _ hb ht
      have e : L.map (mv1 (mF1 (m b))) = L.map (mv1 m) := map_still hL
      show lie w (mF1 (m b) 1) (L.map (mv1 (mF1 (m b)))) ty
      rw [e]
      exact this
  · rcases blkF1 hi with ⟨rfl, rfl⟩ | ⟨rfl, rfl⟩
    · rw [o5] at hx; cases hx
    · exact E.low b _ hb own
  · rcases blkF1 hi with ⟨rfl, rfl⟩ | ⟨rfl, rfl⟩
    · rw [o4] at ht; cases ht
    · rw [own] at hr; cases hr
  · rcases blkF1 hi with ⟨rfl, rfl⟩ | ⟨rfl, rfl⟩
    · rw [o5] at hx; cases hx
    · rcases blkF1 hj with ⟨rfl, rfl⟩ | ⟨rfl, rfl⟩
      · rw [o5] at hy; cases hy
      · rfl
  · rcases blkF1 hi with ⟨rfl, rfl⟩ | ⟨rfl, rfl⟩
    · obtain ⟨c, y, cs', t', z, _, _, _, _, rfl⟩ := frB_mem hv
      rfl
    · exact lt1_mono (Nat.zero_le _) (hL v hv)
  · rcases blkF1 hi with ⟨rfl, rfl⟩ | ⟨rfl, rfl⟩
    · refine ⟨fun hs => absurd (o6.symm.trans hs) (by decide), fun _ => ?_⟩
      rw [show (frB b m h w, fmT).1.map (mv1 (mF1 (m b))) = frB b m h w from frB_still]
      refine ⟨⟨fun he => absurd (show fmT = mpT from he) (by decide), fun he => absurd (show fmT = obT from he) (by decide), fun _ => frB_at E, fun he => absurd rfl he⟩, fun c y hc hy hf => ?_, fun c y hc hy hq => ?_⟩
      · rcases blkF1 hc with ⟨rfl, rfl⟩ | ⟨rfl, rfl⟩
        · rw [o5] at hy; cases hy
        · obtain ⟨c', y', h0, h1, h2, h3⟩ := frB_own hf
          exact h0 (E.inj _ _ _ _ h1 hb h2 own h3)
      · rcases blkF1 hc with ⟨rfl, rfl⟩ | ⟨rfl, rfl⟩
        · rfl
        · rw [spK_own own] at hy; cases hy
    · rw [ab_ro own] at hx; cases hx
/-- What is to be reckoned of such a call. -/
def FitsF (r : Option (Value × Hp × List Dec × Lg)) (v : Value) (F L' : List Value) (ty : TypeId) (lg : Log) : Prop :=
  r.map (fun r => (r.1, r.2.1.blk? 0, r.2.1.blk? 1)) = some (v, some (F, fmT), some (L', ty)) ∧ r.map (fun r => r.2.2.2.cs) = some lg ∧ r.map (fun r => r.2.2.2.es.map Prod.fst) = r.map (fun r => r.2.2.2.es.map Prod.snd) ∧ r.map (fun r => r.2.2.2.bs.map Prod.fst) = r.map (fun r => r.2.2.2.bs.map Prod.snd)
theorem fits_frame {T : Tab} (hT : TabOk T) {n f : Nat} {vals : List Value} {sc : List Dec} {v : Value} {L L' : List Value} {ty : TypeId} {lg : Log} (hF : ∀ F, FitsF (reckonAt T (hF1 L ty F) n f vals sc) v F L' ty lg) (hlg : okLog lg)
    (hL : ∀ u ∈ L, lt1 0 u = true) (hL' : ∀ u ∈ L', lt1 0 u = true) (hv : lt 0 v = true) (hvals : ∀ v ∈ vals, lt 2 v = true) (hoc : ∀ v ∈ vals, oc [1] v = true)
    {m : Mp} {B : Nat} {h : Hp} {w : World} (E : Emb m B h w) {b : Nat} (hb : h.blk? b = some (L, ty)) (own : ro ty = false) (hsp : (h.l.all fun x => !(spK x.2)) = true) :
    Calls T.P f ((vals.map (rn fun _ => b)).map (mv m)).toArray w fun e w' => e = .returned v ∧ Came m B h w v (h.put b (L', ty)) m w' := by
  obtain ⟨o4, o5, o6, o7⟩ := fm_facts
  have E0 := E.frame hb own hL
  have ev : (vals.map (rn fun _ => b)).map (mv m) = vals.map (mv (mF1 (m b))) := by
    rw [List.map_map]
    refine List.map_congr_left fun y hy => ?_
    show mv m (rn (fun _ => b) y) = _
    rw [mv_rn]
    refine mv_on (fun c hc => ?_) (hoc y hy)
    rw [List.mem_singleton.1 hc]
    rfl
  rw [ev]
  obtain ⟨h1, h2, h3, h4⟩ := hF (frB b m h w)
  cases hrr : reckonAt T (hF1 L ty (frB b m h w)) n f vals sc with
  | none => rw [hrr] at h1; cases h1
  | some r =>
    rw [hrr] at h1 h2 h3 h4
    simp only [Option.map_some, Option.some.injEq, Prod.mk.injEq] at h1 h2 h3 h4
    obtain ⟨v', h', s', LL⟩ := r
    simp only at h1 h2 h3 h4
    obtain ⟨rfl, hblk0, hblk1⟩ := h1
    obtain ⟨_, _, h5⟩ := callBy_ok hT (evC_ok hT n).1 _ _ _ _ _ _ _ _ _ hrr ⟨by rw [h2]; exact hlg, all_eq _ h3, all_eq _ h4⟩
    refine (h5 _ _ w E0 hvals).mono fun en w' he => ?_
    obtain ⟨m1, rfl, C⟩ := he
    refine ⟨by rw [mv_still hv], Agree.refl _ _, ?_, C.below, by simp [Hp.put], lt_mono (Nat.zero_le _) hv⟩
    have hm1 : m1 1 = m b := C.agree 1 (by show 1 < 2; omega)
    have A := (C.emb.abs 0 _ hblk0 o7).2 o6
    have A1 : frAt w' (frB b m h w) := by
      have := A.1.2.2.1 rfl
      rw [show (frB b m h w, fmT).1.map (mv1 m1) = frB b m h w from frB_still] at this
      exact this
    have stay : ∀ c y, c ≠ b → h.blk? c = some y → ro y.2 = false → w'.heap[(m c).1]? = w.heap[(m c).1]? := by
      intro c y hne hc hy
      obtain ⟨cs, t, q1, q2⟩ := mem_frB (b := b) E hne hc hy
      rw [q1]
      exact A1 _ q2 (m c).1 t cs rfl
    have blk := fun c => Hp.blk_put (h := h) (b := b) (x := (L', ty)) (c := c) E.len (Hp.blk_lt hb)
    have nsp : ∀ {c : Nat} {y : List Value × TypeId}, h.blk? c = some y → spK y.2 = false := by
      intro c y hc
      unfold Hp.blk? at hc
      split at hc
      · have := List.all_eq_true.1 hsp y (List.mem_of_getElem? hc)
        simpa using this
      · cases hc
    refine ⟨by simp [Hp.put, E.len], fun c y hc ht => ?_, fun c y hc hy => ?_, fun c y hc ht hr => ?_, fun c c' y y' hc hc' hy hy' he => ?_, fun c y hc u hu => ?_, Nat.le_trans E.base C.below.size, C.emb.ice, fun c y hc ha => ?_⟩
    · rw [blk] at hc
      by_cases hcb : c = b
      · rw [if_pos hcb] at hc
        cases hc
        have := C.emb.lies 1 _ hblk1 (tomb_ro own)
        rw [hm1, show L'.map (mv1 m1) = L'.map (mv1 m) from map_still hL'] at this
        rw [hcb]
        exact this
      · rw [if_neg hcb] at hc
        cases hr : ro y.2
        · exact (E.lies c y hc ht).congr (stay c y hcb hc hr)
        · exact (E.lies c y hc ht).congr (C.below.block _ (E.ros c y hc ht hr))
    · rw [blk] at hc
      by_cases hcb : c = b
      · rw [hcb]; exact E.low b _ hb own
      · rw [if_neg hcb] at hc
        exact E.low c y hc hy
    · rw [blk] at hc
      by_cases hcb : c = b
      · rw [if_pos hcb] at hc
        cases hc
        rw [own] at hr
        cases hr
      · rw [if_neg hcb] at hc
        exact E.ros c y hc ht hr
    · rw [blk] at hc hc'
      have g : ∀ {c : Nat} {y : List Value × TypeId}, (if c = b then some (L', ty) else h.blk? c) = some y → ro y.2 = false → ∃ x, h.blk? c = some x ∧ ro x.2 = false := by
        intro c y hc hy
        by_cases hcb : c = b
        · exact ⟨_, hcb ▸ hb, own⟩
        · rw [if_neg hcb] at hc
          exact ⟨y, hc, hy⟩
      obtain ⟨x, g1, g2⟩ := g hc hy
      obtain ⟨x', g1', g2'⟩ := g hc' hy'
      exact E.inj c c' x x' g1 g1' g2 g2' he
    · rw [blk] at hc
      by_cases hcb : c = b
      · rw [if_pos hcb] at hc
        cases hc
        exact lt1_mono (Nat.zero_le _) (hL' u hu)
      · rw [if_neg hcb] at hc
        exact E.wf c y hc u hu
    · rw [blk] at hc
      by_cases hcb : c = b
      · rw [if_pos hcb] at hc
        cases hc
        rw [ab_ro own] at ha
        cases ha
      · rw [if_neg hcb] at hc
        have hs := nsp hc
        obtain ⟨q1, q2⟩ := (E.abs c y hc ha).1 hs
        exact ⟨fun _ => ⟨q1, q2.congr (C.below.block _ q1)⟩, fun hq => by rw [hs] at hq; cases hq⟩
end Go.KRun
