/-
  The document's products: 0 times Endless, a pattern with a product's sign (tillerref06.bad, signed), as calls in every world; what is known of calls, for its Mul and Fma.
-/
import Derived.Test.YtecaahiajbkioaaG28
import Derived.Test.YtecaahiajbkioaaG31
import Derived.Test.YtecaahiajbkioaaG32
namespace Go.Proofs.Ytecaahiajbkioaa
open Go.KRun Go.Nt Go.Wd Go.Pt Go.Rn
set_option maxRecDepth 100000

theorem rb_tt (a b : Int) : Fits (reckon (tabH Try.prog extY conRA hcS) 300 24 [.int .u64 a, .int .u64 b] [cmp true, cmp true]) (.bool true) [(mag b == 9218868437227405312, true), (mag a == 0, true), lU b, lU a] := ⟨by kernel_rfl, by kernel_rfl, by kernel_rfl, by kernel_rfl⟩
theorem rb_tff (a b : Int) : Fits (reckon (tabH Try.prog extY conRA hcS) 300 24 [.int .u64 a, .int .u64 b] [cmp true, cmp false, cmp false]) (.bool false) [(mag b == 0, false), (mag b == 9218868437227405312, false), (mag a == 0, true), lU b, lU a] := ⟨by kernel_rfl, by kernel_rfl, by kernel_rfl, by kernel_rfl⟩
theorem rb_tft (a b : Int) : Fits (reckon (tabH Try.prog extY conRA hcS) 300 24 [.int .u64 a, .int .u64 b] [cmp true, cmp false, cmp true, cmp false]) (.bool false) [(mag a == 9218868437227405312, false), (mag b == 0, true), (mag b == 9218868437227405312, false), (mag a == 0, true), lU b, lU a] := ⟨by kernel_rfl, by kernel_rfl, by kernel_rfl, by kernel_rfl⟩
theorem rb_ff (a b : Int) : Fits (reckon (tabH Try.prog extY conRA hcS) 300 24 [.int .u64 a, .int .u64 b] [cmp false, cmp false]) (.bool false) [(mag b == 0, false), (mag a == 0, false), lU b, lU a] := ⟨by kernel_rfl, by kernel_rfl, by kernel_rfl, by kernel_rfl⟩
theorem rb_ftt (a b : Int) : Fits (reckon (tabH Try.prog extY conRA hcS) 300 24 [.int .u64 a, .int .u64 b] [cmp false, cmp true, cmp true]) (.bool true) [(mag a == 9218868437227405312, true), (mag b == 0, true), (mag a == 0, false), lU b, lU a] := ⟨by kernel_rfl, by kernel_rfl, by kernel_rfl, by kernel_rfl⟩
theorem rb_ftf (a b : Int) : Fits (reckon (tabH Try.prog extY conRA hcS) 300 24 [.int .u64 a, .int .u64 b] [cmp false, cmp true, cmp false]) (.bool false) [(mag a == 9218868437227405312, false), (mag b == 0, true), (mag a == 0, false), lU b, lU a] := ⟨by kernel_rfl, by kernel_rfl, by kernel_rfl, by kernel_rfl⟩
theorem rs_tt (p a b : Int) : Fits (reckon (tabH Try.prog extY conRA hcS) 300 26 [.int .u64 p, .int .u64 a, .int .u64 b] [cmp true, cmp true]) (.int .u64 p) [(decide (b ≥ 9223372036854775808), true), (decide (a ≥ 9223372036854775808), true)] := ⟨by kernel_rfl, by kernel_rfl, by kernel_rfl, by kernel_rfl⟩
theorem rs_tf (p a b : Int) : Fits (reckon (tabH Try.prog extY conRA hcS) 300 26 [.int .u64 p, .int .u64 a, .int .u64 b] [cmp true, cmp false]) (.int .u64 (IntKind.u64.wrap (p + 9223372036854775808))) [(decide (b ≥ 9223372036854775808), false), (decide (a ≥ 9223372036854775808), true)] := ⟨by kernel_rfl, by kernel_rfl, by kernel_rfl, by kernel_rfl⟩
theorem rs_ft (p a b : Int) : Fits (reckon (tabH Try.prog extY conRA hcS) 300 26 [.int .u64 p, .int .u64 a, .int .u64 b] [cmp false, cmp true]) (.int .u64 (IntKind.u64.wrap (p + 9223372036854775808))) [(decide (b ≥ 9223372036854775808), true), (decide (a ≥ 9223372036854775808), false)] := ⟨by kernel_rfl, by kernel_rfl, by kernel_rfl, by kernel_rfl⟩
theorem rs_ff (p a b : Int) : Fits (reckon (tabH Try.prog extY conRA hcS) 300 26 [.int .u64 p, .int .u64 a, .int .u64 b] [cmp false, cmp false]) (.int .u64 p) [(decide (b ≥ 9223372036854775808), false), (decide (a ≥ 9223372036854775808), false)] := ⟨by kernel_rfl, by kernel_rfl, by kernel_rfl, by kernel_rfl⟩
theorem cl_zero (p : Int) : cl p = 0 ↔ mag p = 0 := by
  have h1 := mag_eq p
  have h2 := ex_lt p
  have h3 := fr_lt p
  rw [h1]
  unfold cl
  split
  · split <;> omega
  · split
    · split
      · omega
      · split <;> omega
    · omega
theorem rbad_calls (a b : Int) (ha : U a) (hb : U b) (w : World) : Calls Try.prog 24 #[.int .u64 a, .int .u64 b] w fun r w' => r = .returned (.bool (badB a b)) ∧ Tidy w w' := by
  have hv : ([.int .u64 a, .int .u64 b].all (lt 0)) = true := rfl
  have T := tabH_ok conRA_ok hcS_ok
  have ka : decide (U a) = true := decide_eq_true ha
  have kb : decide (U b) = true := decide_eq_true hb
  have e : badB a b = decide ((mag a = 0 ∧ mag b = 9218868437227405312) ∨ (mag a = 9218868437227405312 ∧ mag b = 0)) := by
    unfold badB
    simp only [cl_zero, (mag_cl a).2.1, (mag_cl b).2.1]
  rw [e]
  by_cases az : mag a = 0
  · have ai : mag a ≠ 9218868437227405312 := by omega
    by_cases bi : mag b = 9218868437227405312
    · rw [decide_eq_true (.inl ⟨az, bi⟩)]
      exact fits_calls T (rb_tt a b) (okCons (beq_t bi) (okCons (beq_t az) (okCons kb (okL1 ka)))) hv (by rfl) w
    · rw [decide_eq_false (by omega)]
      by_cases bz : mag b = 0
      · exact fits_calls T (rb_tft a b) (okCons (beq_f ai) (okCons (beq_t bz) (okCons (beq_f bi) (okCons (beq_t az) (okCons kb (okL1 ka)))))) hv (by rfl) w
      · exact fits_calls T (rb_tff a b) (okCons (beq_f bz) (okCons (beq_f bi) (okCons (beq_t az) (okCons kb (okL1 ka))))) hv (by rfl) w
  · by_cases bz : mag b = 0
    · by_cases ai : mag a = 9218868437227405312
      · rw [decide_eq_true (.inr ⟨ai, bz⟩)]
        exact fits_calls T (rb_ftt a b) (okCons (beq_t ai) (okCons (beq_t bz) (okCons (beq_f az) (okCons kb (okL1 ka))))) hv (by rfl) w
      · rw [decide_eq_false (by omega)]
        exact fits_calls T (rb_ftf a b) (okCons (beq_f ai) (okCons (beq_t bz) (okCons (beq_f az) (okCons kb (okL1 ka))))) hv (by rfl) w
    · rw [decide_eq_false (by omega)]
      exact fits_calls T (rb_ff a b) (okCons (beq_f bz) (okCons (beq_f az) (okCons kb (okL1 ka)))) hv (by rfl) w
def sgB (p a b : Int) : Int := sS (prN a b) p
theorem rsgn_calls (p a b : Int) (hp : 0 ≤ p ∧ p < 9223372036854775808) (w : World) : Calls Try.prog 26 #[.int .u64 p, .int .u64 a, .int .u64 b] w fun r w' => r = .returned (.int .u64 (sgB p a b)) ∧ Tidy w w' := by
  have hv : ([.int .u64 p, .int .u64 a, .int .u64 b].all (lt 0)) = true := rfl
  have T := tabH_ok conRA_ok hcS_ok
  have e1 : IntKind.u64.wrap (p + 9223372036854775808) = sS true p := by
    rw [wrapU' ⟨by omega, by omega⟩]; simp only [sS, if_true]; omega
  have e0 : p = sS false p := by simp [sS]
  unfold sgB prN
  by_cases sa : a ≥ 9223372036854775808
  · have na : sgn a = true := decide_eq_true sa
    by_cases sb : b ≥ 9223372036854775808
    · have nb : sgn b = true := decide_eq_true sb
      rw [na, nb, show (true != true) = false from rfl, ← e0]
      exact fits_calls T (rs_tt p a b) (okCons (decide_eq_true sb) (okL1 (decide_eq_true sa))) hv (by rfl) w
    · have nb : sgn b = false := decide_eq_false sb
      rw [na, nb, show (true != false) = true from rfl, ← e1]
      exact fits_calls T (rs_tf p a b) (okCons (decide_eq_false sb) (okL1 (decide_eq_true sa))) hv (by rfl) w
  · have na : sgn a = false := decide_eq_false sa
    by_cases sb : b ≥ 9223372036854775808
    · have nb : sgn b = true := decide_eq_true sb
      rw [na, nb, show (false != true) = true from rfl, ← e1]
      exact fits_calls T (rs_ft p a b) (okCons (decide_eq_true sb) (okL1 (decide_eq_false sa))) hv (by rfl) w
    · have nb : sgn b = false := decide_eq_false sb
      rw [na, nb, show (false != false) = false from rfl, ← e0]
      exact fits_calls T (rs_ff p a b) (okCons (decide_eq_false sb) (okL1 (decide_eq_false sa))) hv (by rfl) w
def gRsg : Ans := fun vals s =>
  match vals with
  | [.int .u64 p, .int .u64 a, .int .u64 b] => some (.int .u64 (sgB p a b), s, [(decide (0 ≤ p ∧ p < 9223372036854775808), true)])
  | _ => none
theorem gRsg_ok : AnsOk 26 gRsg := by
  intro vals s v s' lg h hl w
  unfold gRsg at h
  split at h
  · cases h
    exact rsgn_calls _ _ _ (of_decide_eq_true (hl _ (List.mem_singleton.2 rfl))) w
  · cases h
def conRB : Con := alt 24 (gUUb badB) (alt 26 gRsg conRA)
theorem conRB_ok : ConOk conRB := alt_ok Try.func24 rfl (gUUb_ok rbad_calls) (alt_ok Try.func26 rfl gRsg_ok conRA_ok)
def hcM : Hc := altH 53 gUmul hcS
theorem hcM_ok : HcOk hcM := altH_ok Try.func53 rfl gUmul_ok hcS_ok
end Go.Proofs.Ytecaahiajbkioaa

/-
  The document's exact product (tillerref06.Exact), as a contract.
-/
namespace Go.Proofs.Ytecaahiajbkioaa
open Go.KRun Go.Nt Go.Wd Go.Pt Go.Rn
set_option maxRecDepth 100000
set_option linter.unusedVariables false

theorem ex6_body : Try.f28.body = some (cBody Try.f28) := by kernel_rfl
def hX5 (a b : Int) : Hp := ⟨5, [bOf (sgn b) (xp b) (sOf 2 (sg b).toNat), bOf (sgn a) (xp a) (sOf 1 (sg a).toNat), (wU (d16 (sg b).toNat), tU), (wU (d16 (sg a).toNat), tU), bOf false 0 nilS]⟩
def vX (a b : Int) : Nat := vO (hX5 a b) (ad 1 0) (d16 (sg a).toNat).length * vO (hX5 a b) (ad 2 0) (d16 (sg b).toNat).length
theorem ex6_go (a b : Int) : GoesT (evC (tabH Try.prog extY conPt hcM) 200 false (cBody Try.f28) ([.int .u64 a, .int .u64 b] ++ List.replicate 25 undef, ⟨0, []⟩, []) ⟨[], [], []⟩) 5 22 (some none) [.int .u64 a, .int .u64 b, .tuple #[], .tuple #[], .pointer (some ⟨0, 0, none⟩)] ⟨6, [(wU (d16 (vX a b)), tU), bOf (sgn b) (xp b) (sOf 2 (sg b).toNat), bOf (sgn a) (xp a) (sOf 1 (sg a).toNat), (wU (d16 (sg b).toNat), tU), (wU (d16 (sg a).toNat), tU), bOf (prN a b) (IntKind.i64.wrap (xp a + xp b)) (sOf 5 (vX a b))]⟩ [(okMu (hX5 a b) (ad 1 0) (ad 2 0) (d16 (sg a).toNat).length (d16 (sg a).toNat).length (d16 (sg b).toNat).length (d16 (sg b).toNat).length, true), lU b, lU a] := ⟨by kernel_rfl, by kernel_rfl, by kernel_rfl⟩
theorem len4 (p : Int) : (d16 (sg p).toNat).length ≤ 4 := by
  have := sg_lt p
  refine d16_len (k := 4) ?_
  have e : (2 : Nat) ^ (16 * 4) = 18446744073709551616 := rfl
  omega
theorem vX_eq (a b : Int) : vX a b = prV a b := by
  have h1 : (hX5 a b).blk? 1 = some (wU (d16 (sg a).toNat), tU) := rfl
  have h2 : (hX5 a b).blk? 2 = some (wU (d16 (sg b).toNat), tU) := rfl
  unfold vX prV
  rw [vO_ad h1, vO_ad h2]
theorem okMu_pat (a b : Int) : okMu (hX5 a b) (ad 1 0) (ad 2 0) (d16 (sg a).toNat).length (d16 (sg a).toNat).length (d16 (sg b).toNat).length (d16 (sg b).toNat).length = true := by
  have h1 : (hX5 a b).blk? 1 = some (wU (d16 (sg a).toNat), tU) := rfl
  have h2 : (hX5 a b).blk? 2 = some (wU (d16 (sg b).toNat), tU) := rfl
  have la := len4 a
  have lb := len4 b
  unfold okMu ad
  rw [rowP_d16 h1 (by omega), dgB_d16 h1, rowP_d16 h2 (by omega), dgB_d16 h2, blt_iff.2 (by omega)]
  rfl
def gXx : AnsH := fun vals h s =>
  match vals with
  | [.int .u64 a, .int .u64 b] => some (vRN (prN a b) (prE a b) (sOf h.n (prV a b)), h.push (wU (d16 (prV a b))) tU, s, [(decide (U a ∧ U b), true)])
  | _ => none
theorem gXx_ok : AnsHOk 28 gXx := by
  intro vals h s v h' s' lg hg hl m B w E hv
  unfold gXx at hg
  split at hg
  · rename_i a b
    cases hg
    obtain ⟨q1, q2⟩ := of_decide_eq_true (hl _ (List.mem_singleton.2 rfl))
    have hE := prE_bd a b
    have e1 : IntKind.i64.wrap (xp a + xp b) = prE a b := wrapI' ⟨by unfold prE at hE; omega, by unfold prE at hE; omega⟩
    have hr : RunsW (tabH Try.prog extY conPt hcM) (cBody Try.f28) ([.int .u64 a, .int .u64 b] ++ List.replicate 25 undef, ⟨0, []⟩, []) fun e z => (e = none ∨ e = some none) ∧ ∃ k, resS Try.prog Try.f28 z.1 z.2.1 = some (vRN (prN a b) (prE a b) (sOf k (prV a b))) ∧ ∃ r, z.2.1.blk? k = some (wU (d16 (prV a b)) ++ r, tU) := by
      have hg := ex6_go a b
      rw [e1, vX_eq] at hg
      refine (goesT_runsW (tabH_ok conPt_ok hcM_ok) hg (okCons (okMu_pat a b) (okCons (decide_eq_true q2) (okL1 (decide_eq_true q1))))).mono fun e z he => ?_
      obtain ⟨rfl, ⟨g, e1⟩, e2⟩ := he
      exact ⟨.inr rfl, 5, by rw [e1, e2]; rfl, [], by rw [e2, List.append_nil]; rfl⟩
    have := row_calls2 (T := tabH Try.prog extY conPt hcM) Try.func28 ex6_body (h0 := ⟨0, []⟩) ⟨rfl, fun b x hx => by have : b < 0 := Hp.blk_lt hx; omega⟩ (vals := [.int .u64 a, .int .u64 b]) (fun v hv => by
      simp only [List.mem_cons, List.not_mem_nil, or_false] at hv
      rcases hv with h1 | h1 <;> rw [h1] <;> rfl) (v := fun k => vRN (prN a b) (prE a b) (sOf k (prV a b))) (wU_lt _) (by kernel_rfl) hr (fun k => by simp [oc, oc2, oc1, sOf, sl, vRN]) E (s := fun i => i) (fun i x hx _ => by have : i < 0 := Hp.blk_lt hx; omega) (fun k => by simp [rn, rn2, rn1, sOf, sl, vRN])
    exact this
  · cases hg
def hcX : Hc := altH 28 gXx hcS
theorem hcX_ok : HcOk hcX := altH_ok Try.func28 rfl gXx_ok hcS_ok
end Go.Proofs.Ytecaahiajbkioaa

/-
  The document's Mul and Fma: the memories that its rounding sees.
-/
namespace Go.Proofs.Ytecaahiajbkioaa
open Go.KRun Go.Nt Go.Wd Go.Pt Go.Rn

def hM1 (a b : Int) : Hp := ⟨1, [(wU (d16 (prV a b)), tU)]⟩
def hM2 (a b c : Int) : Hp := ⟨2, [(wU (d16 (sg c).toNat), tU), (wU (d16 (prV a b)), tU)]⟩
def sM (a b c : Int) : Int := smH (hM2 a b c) (prN a b) (sgn c) (prE a b) (xp c) 0 0 (d16 (prV a b)).length 1 0 (d16 (sg c).toNat).length
def lM (a b c : Int) : Int := lowS (prE a b) (xp c) (d16 (prV a b)).length (d16 (sg c).toNat).length
def hM3f (a b c : Int) : Hp := nxt (hM2 a b c) (sM a b c).natAbs
def nM (m a b c : Int) : Bool := sgS m (prN a b) (sgn c) (sM a b c)
end Go.Proofs.Ytecaahiajbkioaa
