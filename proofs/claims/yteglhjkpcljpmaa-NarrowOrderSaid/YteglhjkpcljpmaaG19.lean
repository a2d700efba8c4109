/-
  narrow.To and narrow.From, and what the laws of patterns of 32 bits call besides, as calls in every world.
-/
import Derived.Test.YteglhjkpcljpmaaG18
import Derived.Test.YteglhjkpcljpmaaG14
import Derived.Test.YteglhjkpcljpmaaG17
import Derived.Test.YteglhjkpcljpmaaG03
import Derived.WalkKit
import Derived.ProofKit
import Derived.OpenShut
import Derived.Laws.IdiomArrays
import Derived.Lib.SmallJoins
namespace Go.Proofs.Yteglhjkpcljpmaa
open Go.KRun Go.Wd Go.Pt Go.Rn
set_option maxRecDepth 100000

theorem nt_l (p m : Int) : Fits (reckon (tabOf Try.prog extY conND true) 300 7 [.int .u64 p, .int .i64 m] [cmp true]) (roN 2143289344 1) [(cl p == 5, true), lU p] := ⟨by kernel_rfl, by kernel_rfl, by kernel_rfl, by kernel_rfl⟩
theorem nt_q (p m : Int) : Fits (reckon (tabOf Try.prog extY conND true) 300 7 [.int .u64 p, .int .i64 m] [cmp false, cmp true]) (roN 2143289344 0) [(cl p == 4, true), (cl p == 5, false), lU p] := ⟨by kernel_rfl, by kernel_rfl, by kernel_rfl, by kernel_rfl⟩
theorem nt_i (p m : Int) : Fits (reckon (tabOf Try.prog extY conND true) 300 7 [.int .u64 p, .int .i64 m] [cmp false, cmp false, cmp true]) (roN (s3 (sgn p) 2139095040) 0) [(decide (U p ∧ (0 : Int) ≤ 2139095040 ∧ (2139095040 : Int) < 2147483648), true), (cl p == 3, true), (cl p == 4, false), (cl p == 5, false), lU p] := ⟨by kernel_rfl, by kernel_rfl, by kernel_rfl, by kernel_rfl⟩
theorem nt_f (p m : Int) : Fits (reckon (tabOf Try.prog extY conND true) 300 7 [.int .u64 p, .int .i64 m] [cmp false, cmp false, cmp false, cmp true]) (roN (s3 (sgn p) (rnPN m (sgn p) (wSg p).nat (xp p))) (rnFN m (sgn p) (wSg p).nat (xp p))) [(decide (U p ∧ 0 ≤ rnPN m (sgn p) (wSg p).nat (xp p) ∧ rnPN m (sgn p) (wSg p).nat (xp p) < 2147483648), true), (okRN (wSg p) (xp p), true), lU p, (decide (cl p ≤ 2), true), lU p, (cl p == 3, false), (cl p == 4, false), (cl p == 5, false), lU p] := ⟨by kernel_rfl, by kernel_rfl, by kernel_rfl, by kernel_rfl⟩
theorem nf_q (q : Int) : Fits (reckon (tabOf Try.prog extY conND true) 300 10 [.int .u32 q] [cmp true]) (rdT 9221120237041090560 0) [(decide ((hNot q 2147483648) ≥ 2143289344), true)] := ⟨by kernel_rfl, by kernel_rfl, by kernel_rfl, by kernel_rfl⟩
theorem nf_l (q : Int) : Fits (reckon (tabOf Try.prog extY conND true) 300 10 [.int .u32 q] [cmp false, cmp true]) (rdT 9221120237041090560 1) [(decide ((hNot q 2147483648) > 2139095040), true), (decide ((hNot q 2147483648) ≥ 2143289344), false)] := ⟨by kernel_rfl, by kernel_rfl, by kernel_rfl, by kernel_rfl⟩
theorem nf_i (q : Int) : Fits (reckon (tabOf Try.prog extY conND true) 300 10 [.int .u32 q] [cmp false, cmp false, cmp true]) (rdT (sS (sgn (IntKind.u64.wrap (IntKind.u64.wrap q * 2 ^ min (Int.toNat 32) 64))) (mag 9218868437227405312)) 0) [(true, true), (decide (U 9218868437227405312 ∧ U (IntKind.u64.wrap (IntKind.u64.wrap q * 2 ^ min (Int.toNat 32) 64))), true), (decide ((32 : Int) < 0), false), ((hNot q 2147483648) == 2139095040, true), (decide ((hNot q 2147483648) > 2139095040), false), (decide ((hNot q 2147483648) ≥ 2143289344), false)] := ⟨by kernel_rfl, by kernel_rfl, by kernel_rfl, by kernel_rfl⟩
theorem nf_f (q : Int) : Fits (reckon (tabOf Try.prog extY conND true) 300 10 [.int .u32 q] [cmp false, cmp false, cmp false]) (rdT (sS (sgn (IntKind.u64.wrap (IntKind.u64.wrap q * 2 ^ min (Int.toNat 32) 64))) (mag (sS false (rnP 0 false (tw (⟨sg3 (hNot q 2147483648), 0, 0, 0⟩ : W4) false) (clp (xp3 (hNot q 2147483648)) - 1))))) (rnF 0 false (tw (⟨sg3 (hNot q 2147483648), 0, 0, 0⟩ : W4) false) (clp (xp3 (hNot q 2147483648)) - 1))) [(true, true), (decide (U (sS false (rnP 0 false (tw (⟨sg3 (hNot q 2147483648), 0, 0, 0⟩ : W4) false) (clp (xp3 (hNot q 2147483648)) - 1))) ∧ U (IntKind.u64.wrap (IntKind.u64.wrap q * 2 ^ min (Int.toNat 32) 64))), true), (decide ((32 : Int) < 0), false), (decide (⟨sg3 (hNot q 2147483648), 0, 0, 0⟩ : W4).ok, true), (decide (0 ≤ (hNot q 2147483648) ∧ (hNot q 2147483648) < 2147483648), true), ((hNot q 2147483648) == 2139095040, false), (decide ((hNot q 2147483648) > 2139095040), false), (decide ((hNot q 2147483648) ≥ 2143289344), false)] := ⟨by kernel_rfl, by kernel_rfl, by kernel_rfl, by kernel_rfl⟩
theorem nt_calls (p m : Int) (hp : U p) (w : World) : Calls Try.prog 7 #[.int .u64 p, .int .i64 m] w fun r w' => r = .returned (roN (naP m p) (naF m p)) ∧ Tidy w w' := by
  have T := tabY_ok conND_ok
  have hv : ([.int .u64 p, .int .i64 m].all (lt 0)) = true := rfl
  have kp : decide (U p) = true := decide_eq_true hp
  have ba := cl_bd p
  unfold naP naF
  by_cases h3 : 3 < cl p
  · rw [if_pos h3, if_pos h3]
    by_cases h5 : cl p = 5
    · rw [if_pos h5]
      exact fits_calls T (nt_l p m) (okCons (beq_t (by omega)) (okL1 kp)) hv (by rfl) w
    · rw [if_neg h5]
      exact fits_calls T (nt_q p m) (okCons (beq_t (by omega)) (okCons (beq_f (by omega)) (okL1 kp))) hv (by rfl) w
  rw [if_neg h3, if_neg h3]
  by_cases c3 : cl p = 3
  · rw [if_pos c3, if_pos c3]
    exact fits_calls T (nt_i p m) (okCons (decide_eq_true ⟨hp, by omega, by omega⟩) (okCons (beq_t (by omega)) (okCons (beq_f (by omega)) (okCons (beq_f (by omega)) (okL1 kp))))) hv (by rfl) w
  rw [if_neg c3, if_neg c3]
  have sb := sg_lt p
  have xb := xp_bd p
  have rb := rnP_bdN m (sgn p) (wSg p).nat (xp p)
  have ko : okRN (wSg p) (xp p) = true := by
    refine decide_eq_true ⟨wSg_ok p, by rw [wSg_nat]; omega, ?_, xb.1, xb.2⟩
    rw [wSg_nat]
    have hx := fin_ex (p := p) (by omega)
    by_cases h0 : ex p = 0
    · right
      unfold xp
      simp [h0]
    · left
      have hs : sg p = fr p + 4503599627370496 := by unfold sg; simp [h0, hx]
      have := fr_lt p
      omega
  rw [← wSg_nat]
  exact fits_calls T (nt_f p m) (okCons (decide_eq_true ⟨hp, rb.1, by omega⟩) (okCons ko (okCons kp (okCons (decide_eq_true (by omega)) (okCons kp (okCons (beq_f (by omega)) (okCons (beq_f (by omega)) (okCons (beq_f (by omega)) (okL1 kp))))))))) hv (by rfl) w
theorem nf_calls (q : Int) (hq : U3 q) (w : World) : Calls Try.prog 10 #[.int .u32 q] w fun r w' => r = .returned (rdT (nfP q) (nfF q)) ∧ Tidy w w' := by
  have T := tabY_ok conND_ok
  have hv : ([.int .u32 q].all (lt 0)) = true := rfl
  have eS := hNot_sign hq
  have q0 := hq.1
  have q1 := hq.2
  have mb : 0 ≤ mag3 q ∧ mag3 q < 2147483648 := by unfold mag3; omega
  have e32 : ((2 : Int) ^ min (Int.toNat 32) 64) = 4294967296 := by rfl
  have eX : (IntKind.u64.wrap (IntKind.u64.wrap q * 2 ^ min (Int.toNat 32) 64)) = q * 4294967296 := by rw [e32, wrapU, wrapU]; omega
  obtain ⟨kX0, sX⟩ := sign_up hq
  have kX : U (IntKind.u64.wrap (IntKind.u64.wrap q * 2 ^ min (Int.toNat 32) 64)) := by rw [eX]; exact kX0
  have hg : sgn (IntKind.u64.wrap (IntKind.u64.wrap q * 2 ^ min (Int.toNat 32) 64)) = sgn3 q := by rw [eX]; exact sX
  unfold nfP nfF
  by_cases h1 : 2143289344 ≤ mag3 q
  · rw [if_pos (show 2139095040 < mag3 q by omega), if_neg (by omega)]
    exact fits_calls T (nf_q q) (okL1 (decide_eq_true (by omega))) hv (by rfl) w
  by_cases h2 : 2139095040 < mag3 q
  · rw [if_pos h2, if_pos ⟨h2, by omega⟩]
    exact fits_calls T (nf_l q) (okCons (decide_eq_true (by omega)) (okL1 (decide_eq_false (by omega)))) hv (by rfl) w
  rw [if_neg h2, if_neg (show ¬ (2139095040 < mag3 q ∧ mag3 q < 2143289344) from fun h => h2 h.1)]
  by_cases h3 : mag3 q = 2139095040
  · rw [if_pos h3]
    have hf := nf_i q
    rw [hg] at hf
    have e : sS (sgn3 q) (mag 9218868437227405312) = if sgn3 q = true then 18442240474082181120 else 9218868437227405312 := by
      unfold sS
      split <;> rfl
    rw [e] at hf
    exact fits_calls T hf (okCons rfl (okCons (decide_eq_true ⟨⟨by omega, by omega⟩, kX⟩) (okCons (by decide) (okCons (beq_t (by omega)) (okCons (decide_eq_false (by omega)) (okL1 (decide_eq_false (by omega)))))))) hv (by rfl) w
  rw [if_neg h3]
  have hx : ex3 q ≠ 255 := ex3_fin.2 (by omega)
  obtain ⟨p1, p2⟩ := parts3 q
  have sb := sg3_bd q
  obtain ⟨ok0, on⟩ := w1_nat (x := sg3 q) sb.1 (by omega)
  have hr := rd_w9 0 false ok0 (C := xp3 q) (D := xp3 q) (.inl rfl)
  rw [on] at hr
  obtain ⟨f0, _, r0, r1, _⟩ := fu_num hx 0 false
  rw [f0] at hr
  unfold rdV rdT at hr
  have hr2 : sS false (rnP 0 false (tw (⟨sg3 q, 0, 0, 0⟩ : W4) false) (clp (xp3 q) - 1)) = sS false (rnP 0 false (sg3 q).toNat (xp3 q)) ∧ rnF 0 false (tw (⟨sg3 q, 0, 0, 0⟩ : W4) false) (clp (xp3 q) - 1) = 0 := by
    simpa using hr
  obtain ⟨m1, _, m3, _⟩ := sS_mag (n := false) r0 (show rnP 0 false (sg3 q).toNat (xp3 q) < 9223372036854775808 by omega)
  have hf := nf_f q
  rw [hg] at hf
  rw [eS] at hf
  rw [p1, p2, hr2.2, hr2.1, m1] at hf
  have e : sS (sgn3 q) (rnP 0 false (sg3 q).toNat (xp3 q)) = if sgn3 q = true then rnP 0 false (sg3 q).toNat (xp3 q) + 9223372036854775808 else rnP 0 false (sg3 q).toNat (xp3 q) := by
    unfold sS
    split <;> omega
  rw [e] at hf
  have kU := m3
  have ok1 := ok0
  exact fits_calls T hf (okCons rfl (okCons (decide_eq_true ⟨kU, kX⟩) (okCons (by decide) (okCons (decide_eq_true ok1) (okCons (decide_eq_true ⟨by omega, by omega⟩) (okCons (beq_f (by omega)) (okCons (decide_eq_false (by omega)) (okL1 (decide_eq_false (by omega)))))))))) hv (by rfl) w
def gNT : Ans := fun vals s =>
  match vals with
  | [.int .u64 p, .int .i64 m] => some (roN (naP m p) (naF m p), s, [(decide (U p), true)])
  | _ => none
theorem gNT_ok : AnsOk 7 gNT := by
  intro vals s v s' lg h hl w
  unfold gNT at h
  split at h
  · cases h
    exact nt_calls _ _ (of_decide_eq_true (hl _ (List.mem_singleton.2 rfl))) w
  · cases h
def gNF : Ans := fun vals s =>
  match vals with
  | [.int .u32 q] => some (rdT (nfP q) (nfF q), s, [(decide (U3 q), true)])
  | _ => none
theorem gNF_ok : AnsOk 10 gNF := by
  intro vals s v s' lg h hl w
  unfold gNF at h
  split at h
  · cases h
    exact nf_calls _ (of_decide_eq_true (hl _ (List.mem_singleton.2 rfl))) w
  · cases h
def conNE : Con := alt 7 gNT (alt 10 gNF conN)
theorem conNE_ok : ConOk conNE := alt_ok Try.func7 rfl gNT_ok (alt_ok Try.func10 rfl gNF_ok conN_ok)
theorem sure12 : Fits (reckon (tabOf Try.prog extY conNE true) 300 9 [] [cmp true, cmp true, cmp true, cmp true]) (.bool true) [(nfF 1065353216 == 0, true), (nfP 1065353216 == 4607182418800017408, true), (naF 0 4599676419421066581 == 16, true), (naP 0 4599676419421066581 == 1051372203, true), (decide (U3 1065353216), true), (decide (U 4599676419421066581), true)] := ⟨by kernel_rfl, by kernel_rfl, by kernel_rfl, by kernel_rfl⟩
def gSure12 : Ans := fun vals s => match vals with | [] => some (.bool true, s, []) | _ => none
theorem gSure12_ok : AnsOk 9 gSure12 := by
  intro vals s v s' lg h hl w
  unfold gSure12 at h
  split at h
  · cases h
    exact fits_calls (tabY_ok conNE_ok) sure12 (okCons (by decide) (okCons (by decide) (okCons (by decide) (okCons (by decide) (okCons (by decide) (okL1 (by decide))))))) (by rfl) (by rfl) w
  · cases h
def conNF : Con := alt 9 gSure12 conNE
theorem conNF_ok : ConOk conNF := alt_ok Try.func9 rfl gSure12_ok conNE_ok
end Go.Proofs.Yteglhjkpcljpmaa

/-
  What To and From of patterns of 32 bits answer, in plain terms.
-/
namespace Go.Proofs.Yteglhjkpcljpmaa
open Go.KRun Go.Wd Go.Pt Go.Rn
set_option maxRecDepth 100000

theorem na_fin {p : Int} (h : cl p ≤ 2) (m : Int) : naP m p = s3 (sgn p) (rnPN m (sgn p) (sg p).toNat (xp p)) ∧ naF m p = rnFN m (sgn p) (sg p).toNat (xp p) := by
  unfold naP naF
  rw [if_neg (by omega), if_neg (by omega), if_neg (by omega), if_neg (by omega)]
  exact ⟨rfl, rfl⟩
theorem na_inf {p : Int} (h : cl p = 3) (m : Int) : naP m p = s3 (sgn p) 2139095040 ∧ naF m p = 0 := by
  unfold naP naF
  rw [if_neg (by omega), if_pos h, if_neg (by omega), if_pos h]
  exact ⟨rfl, rfl⟩
theorem na_nan {p : Int} (h : 3 < cl p) (m : Int) : naP m p = 2143289344 ∧ naF m p = if cl p = 5 then 1 else 0 := by
  unfold naP naF
  rw [if_pos h, if_pos h]
  exact ⟨rfl, rfl⟩
theorem rnF_orN (m : Int) (n : Bool) (T : Nat) (E : Int) : rnFN m n T E = 0 ∨ rnFN m n T E = 16 ∨ rnFN m n T E = 20 ∨ rnFN m n T E = 24 := by
  unfold rnFN
  split
  · exact .inl rfl
  · split
    · exact .inr (.inr (.inl rfl))
    · split
      · split
        · exact .inr (.inr (.inr rfl))
        · exact .inr (.inl rfl)
      · exact .inl rfl
theorem naF_bd (m p : Int) : 0 ≤ naF m p ∧ naF m p ≤ 24 := by
  unfold naF
  split
  · split <;> omega
  · split
    · omega
    · have := rnF_orN m (sgn p) (sg p).toNat (xp p)
      omega
/-- From, of what is a number -/
theorem nf_sS {q : Int} (hx : ex3 q ≠ 255) : nfP q = sS (sgn3 q) (rnP 0 false (sg3 q).toNat (xp3 q)) := by
  have h := ex3_fin.1 hx
  unfold nfP sS
  rw [if_neg (by omega), if_neg (by omega)]
  split <;> omega
theorem nf_U {q : Int} : U (nfP q) := by
  by_cases hx : ex3 q ≠ 255
  · obtain ⟨_, _, r0, r1, _⟩ := fu_num hx 0 false
    rw [nf_sS hx]
    exact (sS_mag r0 (by omega)).2.2.1
  · have h : ¬ mag3 q < 2139095040 := fun h => hx (ex3_fin.2 h)
    unfold nfP U
    split
    · omega
    · rw [if_pos (by omega)]
      split <;> omega
/-- there and back -/
theorem na_there {q : Int} (hq : U3 q) (h : mag3 q ≤ 2139095040) (m : Int) : nfF q = 0 ∧ naP m (nfP q) = q ∧ naF m (nfP q) = 0 := by
  refine ⟨by unfold nfF; rw [if_neg (by omega)], ?_⟩
  by_cases hx : ex3 q ≠ 255
  · obtain ⟨_, _, r0, r1, hu⟩ := fu_num hx 0 false
    obtain ⟨m1, m2, _, m4⟩ := sS_mag (n := sgn3 q) r0 (show rnP 0 false (sg3 q).toNat (xp3 q) < 9223372036854775808 by omega)
    rw [nf_sS hx]
    have hc : cl (sS (sgn3 q) (rnP 0 false (sg3 q).toNat (xp3 q))) ≤ 2 := (mag_cl _).2.2.2 (by omega)
    obtain ⟨e1, e2⟩ := na_fin hc m
    obtain ⟨b1, b2⟩ := na_back hx (m4.trans hu) m (sgn3 q)
    rw [e1, e2, m2, b1, b2]
    exact ⟨s3_own hq, rfl⟩
  · have h1 : ¬ mag3 q < 2139095040 := fun h => hx (ex3_fin.2 h)
    have h2 : mag3 q = 2139095040 := by omega
    have e : nfP q = sS (sgn3 q) 9218868437227405312 := by
      unfold nfP sS
      rw [if_neg (by omega), if_pos h2]
      split <;> rfl
    obtain ⟨m1, m2, _, _⟩ := sS_mag (n := sgn3 q) (r := 9218868437227405312) (by omega) (by omega)
    have hc : cl (sS (sgn3 q) 9218868437227405312) = 3 := (mag_cl _).2.1.2 m1
    obtain ⟨e1, e2⟩ := na_inf hc m
    rw [e, e1, e2, m2, ← h2]
    exact ⟨s3_own hq, rfl⟩
theorem na_none {q : Int} (h : 2139095040 < mag3 q) (m : Int) : nfP q = 9221120237041090560 ∧ naP m (nfP q) = 2143289344 := by
  have e : nfP q = 9221120237041090560 := by unfold nfP; rw [if_pos h]
  refine ⟨e, ?_⟩
  rw [e]
  exact (na_nan (by decide) m).1
/-- by Down and Up -/
theorem na_between {p : Int} (hp : sgn p = false) (h : cl p ≤ 3) : (naP 3 p = naP 4 p ∧ naF 3 p = 0 ∧ naF 4 p = 0) ∨ (naP 3 p = naP 4 p + 1 ∧ 0 ≤ naP 4 p ∧ naP 4 p ≤ 2139095040 ∧ (naF 3 p = 16 ∨ naF 3 p = 20 ∨ naF 3 p = 24) ∧ (naF 4 p = 16 ∨ naF 4 p = 20 ∨ naF 4 p = 24)) := by
  by_cases c3 : cl p = 3
  · obtain ⟨a1, a2⟩ := na_inf c3 3
    obtain ⟨b1, b2⟩ := na_inf c3 4
    exact .inl ⟨a1.trans b1.symm, a2, b2⟩
  · obtain ⟨a1, a2⟩ := na_fin (p := p) (by omega) 3
    obtain ⟨b1, b2⟩ := na_fin (p := p) (by omega) 4
    rw [a1, a2, b1, b2, hp]
    have rb := rnP_bdN 4 false (sg p).toNat (xp p)
    have es : ∀ r, s3 false r = r := fun r => by unfold s3; rw [if_neg (by decide)]
    rw [es, es]
    rcases na_sides (sg p).toNat (xp p) with ⟨x1, x2, x3⟩ | ⟨x1, x2, x3⟩
    · exact .inl ⟨x1, x2, x3⟩
    · exact .inr ⟨x1, rb.1, rb.2, x2, x3⟩
/-- with the other sign, and the modes of the sides changed -/
theorem same_parts (n k : Bool) (r : Int) : cl (sS n r) = cl (sS k r) ∧ sg (sS n r) = sg (sS k r) ∧ xp (sS n r) = xp (sS k r) := by
  have e : ex (sS n r) = ex (sS k r) ∧ fr (sS n r) = fr (sS k r) := by
    unfold ex fr sS
    split <;> split <;> omega
  unfold cl sg xp
  rw [e.1, e.2]
  exact ⟨rfl, rfl, rfl⟩
theorem na_other {x : Int} (h0 : 0 ≤ x) (h1 : x < 9223372036854775808) (m : Int) : naF (swM m) (sS true x) = naF m x ∧ (cl x ≤ 3 → naP (swM m) (sS true x) = naP m x + 2147483648 ∧ 0 ≤ naP m x ∧ naP m x ≤ 2139095040) := by
  have ex : sS false x = x := by unfold sS; simp
  obtain ⟨c1, c2, c3⟩ := same_parts true false x
  rw [ex] at c1 c2 c3
  have s1 := (sS_mag (n := true) h0 h1).2.1
  have s2 := (sS_mag (n := false) h0 h1).2.1
  rw [ex] at s2
  have e0 : ∀ r, s3 false r = r := fun r => by unfold s3; rw [if_neg (by decide)]
  have e1 : ∀ r, s3 true r = r + 2147483648 := fun r => by unfold s3; rw [if_pos rfl]
  by_cases h3 : 3 < cl x
  · obtain ⟨_, a2⟩ := na_nan h3 m
    obtain ⟨_, b2⟩ := na_nan (p := sS true x) (by omega) (swM m)
    rw [a2, b2, c1]
    exact ⟨rfl, fun h => by omega⟩
  by_cases h4 : cl x = 3
  · obtain ⟨a1, a2⟩ := na_inf h4 m
    obtain ⟨b1, b2⟩ := na_inf (p := sS true x) (by omega) (swM m)
    rw [a1, a2, b1, b2, s1, s2, e0, e1]
    exact ⟨rfl, fun _ => ⟨rfl, by omega, by omega⟩⟩
  · obtain ⟨a1, a2⟩ := na_fin (p := x) (by omega) m
    obtain ⟨b1, b2⟩ := na_fin (p := sS true x) (by omega) (swM m)
    have w1 := rnP_swMN m false (sg x).toNat (xp x)
    have w2 := rnF_swMN m false (sg x).toNat (xp x)
    simp only [Bool.not_false] at w1 w2
    rw [a1, a2, b1, b2, s1, s2, e0, e1, c2, c3, w1, w2]
    have rb := rnP_bdN m false (sg x).toNat (xp x)
    exact ⟨rfl, fun _ => ⟨rfl, rb.1, rb.2⟩⟩
/-- the greater one never becomes a less one -/
theorem na_order {x y : Int} (h0 : 0 ≤ x) (h : x ≤ y) (hy : y ≤ 9218868437227405312) (m : Int) : naP m x ≤ naP m y := by
  have sx : sgn x = false := decide_eq_false (by omega)
  have sy : sgn y = false := decide_eq_false (by omega)
  have mx : mag x = x := by unfold mag; omega
  have my : mag y = y := by unfold mag; omega
  have e0 : ∀ r, s3 false r = r := fun r => by unfold s3; rw [if_neg (by decide)]
  by_cases y3 : y = 9218868437227405312
  · have cy : cl y = 3 := (mag_cl y).2.1.2 (my.trans y3)
    rw [(na_inf cy m).1, sy, e0]
    by_cases x3 : cl x = 3
    · rw [(na_inf x3 m).1, sx, e0]
      exact Int.le_refl _
    · have cx : cl x ≤ 2 := by
        have := (mag_cl x).1
        have := (mag_cl x).2.1
        have hb := cl_bd x
        have : ¬ 3 < cl x := fun hh => by have := (mag_cl x).1.1 hh; omega
        omega
      rw [(na_fin cx m).1, sx, e0]
      exact (rnP_bdN m false (sg x).toNat (xp x)).2
  · have cx : cl x ≤ 2 := (mag_cl x).2.2.2 (by omega)
    have cy : cl y ≤ 2 := (mag_cl y).2.2.2 (by omega)
    rw [(na_fin cx m).1, (na_fin cy m).1, sx, sy, e0, e0]
    exact na_mono h0 h (by omega) m
end Go.Proofs.Yteglhjkpcljpmaa

/-
  The row's side: an argument that is four words of 64 bits, opened and shut; what a call that only makes memory leaves.
-/
namespace Go.KRun
open Go.ChangeShapes Go.WideShapes Go.ChangeAt Go.RowKit Go.Joins

section
variable {H : Type} {enc : TypeId × Value → H} {P : Program} {w : World} {base : Nat} {spare : Nat → Bool} {held : Bool}

theorem open_w4 {r : Go.Reach} {b0 : Nat} {t e : TypeId} {v : Value} {d : DataW H} {p : List MemPlace} (hu : P.underlying t = some (.array 4 e)) (hue : P.underlying e = some (.int .u64)) (hC : P.cellsOf t = 4) (hce : P.cellsOf e = 1)
    (hv : Value.okWide P w r b0 t v) (h : DataW.Trod enc P w base spare held t v d p) :
    ∃ a0 a1 a2 a3 : Int, v = .agg #[.int .u64 a0, .int .u64 a1, .int .u64 a2, .int .u64 a3] ∧ d = .agg [.lit (.int .u64 a0), .lit (.int .u64 a1), .lit (.int .u64 a2), .lit (.int .u64 a3)] ∧ p = [] ∧
      (Lit.int .u64 a0).wf = true ∧ (Lit.int .u64 a1).wf = true ∧ (Lit.int .u64 a2).wf = true ∧ (Lit.int .u64 a3).wf = true := by
  have hv' := hv
  simp only [Value.okWide, hu] at hv'
  obtain ⟨cs, rfl, hsz, _⟩ := hv'
  obtain ⟨c0, c1, c2, c3, rfl⟩ := array4 (hsz.trans hC)
  obtain ⟨fuel, hf⟩ := h
  have hf' : DataW.trod enc P w base spare held fuel t [c0, c1, c2, c3] = some (d, p) := by simpa [Value.cells] using hf
  obtain ⟨y0, y1, y2, y3, n, hx, h0, h1, h2, h3⟩ := trod_array4 hu hce hf'
  obtain ⟨a0, e0, rfl, w0⟩ := DataW.trod_int hue h0
  obtain ⟨a1, e1, rfl, w1⟩ := DataW.trod_int hue h1
  obtain ⟨a2, e2, rfl, w2⟩ := DataW.trod_int hue h2
  obtain ⟨a3, e3, rfl, w3⟩ := DataW.trod_int hue h3
  simp only [List.cons.injEq, and_true] at e0 e1 e2 e3
  subst e0 e1 e2 e3
  simp only [Prod.mk.injEq] at hx
  exact ⟨a0, a1, a2, a3, rfl, hx.1, by simpa using hx.2, w0, w1, w2, w3⟩

theorem shut_w4 {t e : TypeId} (hu : P.underlying t = some (.array 4 e)) (hue : P.underlying e = some (.int .u64)) (hC : P.cellsOf t = 4) (hce : P.cellsOf e = 1) {a0 a1 a2 a3 : Int}
    (w0 : (Lit.int .u64 a0).wf = true) (w1 : (Lit.int .u64 a1).wf = true) (w2 : (Lit.int .u64 a2).wf = true) (w3 : (Lit.int .u64 a3).wf = true) :
    DataW.Trod enc P w base spare held t (.agg #[.int .u64 a0, .int .u64 a1, .int .u64 a2, .int .u64 a3]) (.agg [.lit (.int .u64 a0), .lit (.int .u64 a1), .lit (.int .u64 a2), .lit (.int .u64 a3)]) [] := by
  refine ⟨2, ?_⟩
  have r4 : List.range 4 = [0, 1, 2, 3] := rfl
  have one : ∀ a : Int, (Lit.int .u64 a).wf = true → DataW.trod enc P w base spare held 1 e [.int .u64 a] = some (.lit (.int .u64 a), []) := fun a ha => by
    simp [DataW.trod, hue, ha]
  simp only [Value.cells]
  unfold DataW.trod
  simp [hu, hC, hce, r4, one a0 w0, one a1 w1, one a2 w2, one a3 w3]
end

theorem tidy_frozen {w w' : World} (h : Tidy w w') (a : Addr) : w'.frozen? a = w.frozen? a := by
  unfold World.frozen?
  by_cases h1 : a.block < w.heap.size
  · rw [h.1.block _ h1]
  · rw [Array.getElem?_eq_none (by omega : w.heap.size ≤ a.block)]
    by_cases h2 : a.block < w'.heap.size
    · have h3 := h.2 a.block (by omega) h2
      unfold iced at h3
      split
      · rename_i c e lo hi hc
        have := h3 _ _ _ hc
        cases this
        simp
      · rfl
    · rw [Array.getElem?_eq_none (by omega : w'.heap.size ≤ a.block)]
theorem u64_bounds {n : Int} (h : (Lit.int .u64 n).wf = true) : 0 ≤ n ∧ n < 18446744073709551616 := by
  simp [Lit.wf, IntKind.min, IntKind.max, IntKind.signed, IntKind.bits] at h
  omega
theorem i64_bounds {n : Int} (h : (Lit.int .i64 n).wf = true) : -9223372036854775808 ≤ n ∧ n ≤ 9223372036854775807 := by
  simp [Lit.wf, IntKind.min, IntKind.max, IntKind.signed, IntKind.bits] at h
  omega
end Go.KRun
