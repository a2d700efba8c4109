/-
  The document's Round (tillerref04), whole.
-/
import Derived.Test.YtehfjljnaencjaaG28
import Derived.Test.YtehfjljnaencjaaG13
namespace Go.Proofs.Ytehfjljnaencjaa
open Go.KRun Go.Nt Go.Wd Go.Rn
set_option maxRecDepth 100000
set_option linter.unusedVariables false

theorem ro_tail {L : List (List Value × TypeId)} (hL : L.length ≤ 1) {neg : Bool} {E t : Int} {b o n c : Nat} {b0 x : List Value × TypeId} {A : List Int} (hRow : ∀ h' : Hp, h'.blk? b = some x → rowP h' (aB b o) n c = true ∧ rowOf h' (aB b o) n = A) (hb : (hB L neg E (sl b o n c) b0).blk? b = some x) (hC : Canon 65536 A) (hn : A.length = n) (hn2 : n < 20000) (hE : -400000 ≤ E ∧ E ≤ 400000) (hT : vb 65536 A ≠ 0) (ht : t = E + (bitLen (vb 65536 A) : Nat)) (htr : -1300 ≤ t ∧ t ≤ 1100) (x0 : Value) (m : Int) (g : Nat → Value) :
    RunsW (tabH Try.prog extY conQ hcQ) (seqs (rS3 Try.f28) (tC Try.f28 10)) (fr7 x0 m t ++ tl 102 g, hB L neg E (sl b o n c) b0, []) (roOut m neg (vb 65536 A) E) := by
  have hlg : lgN (vb 65536 A) E = t - 1 := by unfold lgN; omega
  have hd : dif t 53 = lgN (vb 65536 A) E - 52 := by unfold dif; rw [wrapI (by omega) (by omega)]; omega
  have hN : nOf t = lowE (vb 65536 A) E := by
    unfold nOf lowE
    rw [hd]
    split <;> split <;> omega
  have hge := lowE_ge (vb 65536 A) E
  have hlo : lowE (vb 65536 A) E ≤ 1100 := by unfold lowE; split <;> omega
  have hTl : vb 65536 A < 65536 ^ n := by rw [← hn]; exact vb_lt (by omega) A hC.1
  have hv : ∀ h' : Hp, h'.blk? b = some x → vO h' (aB b o) n = vb 65536 A := fun h' hh => by
    unfold vO
    rw [(hRow h' hh).2]
  have hok : ∀ (h' : Hp) (N : Int), h'.blk? b = some x → (-400000 ≤ N ∧ N ≤ 400000) → okTo h' (aB b o) n c E N = true := fun h' N hh hN => by
    unfold okTo
    rw [(hRow h' hh).1, (hRow h' hh).2, canB_mk hC, blt_iff.2 (by omega), decide_eq_true ⟨hE, hN⟩]
    rfl
  have hl := hB_len L neg E (sl b o n c) b0
  have hQ53 := low_hi m neg (vb 65536 A) E
  have eQ : toQ m neg (vb 65536 A) E (lowE (vb 65536 A) E) = qB m neg (hB L neg E (sl b o n c) b0) b o n E (nOf t) := by
    unfold qB
    rw [hv _ hb, hN]
  -- the row or nothing
  obtain ⟨d, hdd⟩ : ∃ d, d = rowTo m neg (vb 65536 A) n E (lowE (vb 65536 A) E) := ⟨_, rfl⟩
  obtain ⟨Q, hQ⟩ : ∃ Q, Q = toQ m neg (vb 65536 A) E (lowE (vb 65536 A) E) := ⟨_, rfl⟩
  have hq0 : d = false → Q = 0 := fun h0 => by rw [hQ]; exact row_zero hTl (hdd.symm.trans h0)
  have hb1 := pRw_old hl d Q hb
  have hl1 := pRw_len hl d Q
  by_cases ho : toL (vb 65536 A) E (lowE (vb 65536 A) E) = true
  · have eQ2 : toQ m neg (vb 65536 A) E (lgN (vb 65536 A) E - 52) = qB m neg (pRw (hB L neg E (sl b o n c) b0) d Q) b o n E (dif t 53) := by
      unfold qB
      rw [hv _ hb1, hd]
    obtain ⟨d2, hdd2⟩ : ∃ d2, d2 = rowTo m neg (vb 65536 A) n E (lgN (vb 65536 A) E - 52) := ⟨_, rfl⟩
    obtain ⟨Q2, hQ2⟩ : ∃ Q2, Q2 = toQ m neg (vb 65536 A) E (lgN (vb 65536 A) E - 52) := ⟨_, rfl⟩
    have hq20 : d2 = false → Q2 = 0 := fun h0 => by rw [hQ2]; exact row_zero hTl (hdd2.symm.trans h0)
    have hQ253 : Q2 ≤ 9007199254740992 := by rw [hQ2]; exact toQ_le (n := 53) (by unfold lgN; omega)
    have hvF : vF (pRw (pRw (hB L neg E (sl b o n c) b0) d Q) d2 Q2) (pRw (hB L neg E (sl b o n c) b0) d Q).n d2 Q2 = Q2 := by
      cases d2
      · rw [hq20 rfl]; rfl
      · exact vO_d16 (pRw_new hl1 true Q2 rfl)
    have hokF : okF (pRw (pRw (hB L neg E (sl b o n c) b0) d Q) d2 Q2) (pRw (hB L neg E (sl b o n c) b0) d Q).n d2 Q2 = true := by
      cases d2
      · rfl
      · exact okLen_d16 (pRw_new hl1 true Q2 rfl) hQ253
    have hbl : bitLen Q2 ≤ 54 := len_le (by have e : (2 : Nat) ^ 54 = 18014398509481984 := rfl; omega)
    have hty := tiny_doc (m := m) (neg := neg) (E := E) hT
    refine goesT_listW (tabH_ok conQ_ok hcQ_ok) (ro_e1 d d2 (tiny m neg (vb 65536 A) E) (toL (vb 65536 A) E (lgN (vb 65536 A) E - 52)) L hL neg x0 E m t b o n c b0 g Q Q2 (hQ.trans eQ) (hQ2.trans eQ2)) ?_ fun g' => ?_
    · refine okCons ?_ (okCons hokF (okCons ?_ (okCons ?_ (okCons (hok _ _ hb1 (by omega)) (okCons ?_ (okCons ?_ (okL1 (hok _ _ hb (by omega)))))))))
      · rw [hvF, bl_bitLen, ← hty, ← hQ2]
        have e1 : sumI (bitLen Q2 : Nat) t = (bitLen Q2 : Nat) + t := by unfold sumI; exact wrapI (by omega) (by omega)
        have e2 : dif ((bitLen Q2 : Nat) + t) 53 = (bitLen Q2 : Nat) + t - 53 := by unfold dif; exact wrapI (by omega) (by omega)
        rw [e1, e2, hlg]
        congr 1
        simp only [eq_iff_iff]
        omega
      · rw [hv _ hb1, hd]
      · rw [hv _ hb1, hd, hdd2]
      · rw [hv _ hb, hN, ho]
      · rw [hv _ hb, hN, hdd]
    · have hq : QOk (pRw (pRw (hB L neg E (sl b o n c) b0) d Q) d2 Q2) (sRw (hB L neg E (sl b o n c) b0).n d Q) Q := qok_of (fun h1 => pRw_old hl1 d2 Q2 (pRw_new hl d Q h1)) hq0 (by omega)
      rw [pRw_hB, pRw_hB, hQ] at hq
      rw [pRw_hB, pRw_hB, hN, hQ]
      refine ro_last ?_ hT hq hlo fun hno => ?_
      · have h1 := rowL_len d (toQ m neg (vb 65536 A) E (lowE (vb 65536 A) E))
        have h2 := rowL_len d2 Q2
        simp only [List.length_append]
        omega
      · unfold rnF
        rw [if_neg hT, if_neg hno, if_pos ho]
        cases tiny m neg (vb 65536 A) E <;> rfl
  · have ho := (Bool.not_eq_true _).mp ho
    refine goesT_listW (tabH_ok conQ_ok hcQ_ok) (ro_e0 d L hL neg x0 E m t b o n c b0 g) ?_ fun g' => ?_
    · refine okCons ?_ (okCons ?_ (okL1 (hok _ _ hb (by omega))))
      · rw [hv _ hb, hN, ho]
      · rw [hv _ hb, hN, hdd]
    · rw [← eQ, ← hQ]
      have hq : QOk (pRw (hB L neg E (sl b o n c) b0) d Q) (sRw (hB L neg E (sl b o n c) b0).n d Q) Q := qok_of (fun h1 => pRw_new hl d Q h1) hq0 (by omega)
      rw [pRw_hB, hQ] at hq
      rw [pRw_hB, hN, hQ]
      refine ro_last ?_ hT hq hlo fun hno => ?_
      · have h1 := rowL_len d (toQ m neg (vb 65536 A) E (lowE (vb 65536 A) E))
        simp only [List.length_append]
        omega
      · unfold rnF
        rw [if_neg hT, if_neg hno, ho]
        rfl
theorem ro_code2 : tC Try.f28 2 = seqs (rS2 Try.f28) (seqs (rS3 Try.f28) (tC Try.f28 10)) := by kernel_rfl
theorem can_ne {A : List Int} (hC : Canon 65536 A) (h : A ≠ []) : vb 65536 A ≠ 0 := fun h0 => by
  have := db_can (by omega) hC
  rw [h0] at this
  apply h
  rw [← this]
  exact db_zero _
section
variable {l : List Value} {o c : Nat} {A : List Int}
theorem ro_from2 (hF : Fst l o c A) (hC : Canon 65536 A) (hn : A.length < 20000) {neg : Bool} {E : Int} (hE : -400000 ≤ E ∧ E ≤ 400000) (m : Int) (g : Nat → Value) :
    RunsW (tabH Try.prog extY conQ hcQ) (tC Try.f28 2) ([vRN neg E (sl 0 o A.length c), .int .i64 m, .pointer (some ⟨1, 0, none⟩), undef, .int .u64 0, .int .i64 0] ++ tl 103 g, hX neg E o A.length c l, []) (roOut m neg (vb 65536 A) E) := by
  have hb0 : (hX neg E o A.length c l).blk? 0 = some (l, tR) := rfl
  have hv := vO_fst hF hb0
  by_cases h0 : A.length = 0
  · have hz : vb 65536 A = 0 := by rw [List.eq_nil_of_length_eq_zero h0]; rfl
    refine (goesT_runsW (tabH_ok conQ_ok hcQ_ok) (ro_zero neg E m o A.length c l g) (okCons (by rfl) (okL1 ?_))).mono (ro_out ?_ ?_)
    · rw [h0]; rfl
    · rw [hz]; rfl
    · rw [hz]; rfl
  · have hT := can_ne hC (fun h => h0 (by rw [h]; rfl))
    have hTl : vb 65536 A < 2 ^ (16 * A.length) := by rw [← pow16]; exact vb_lt (by omega) A hC.1
    have hbl := len_le hTl
    have e0 : (((A.length : Nat) : Int) == 0) = false := by
      simp only [beq_eq_false_iff_ne, ne_eq]
      omega
    have hok : okLen (hX neg E o A.length c l) (aX o) A.length c = true := okLen_fst hF hC (by omega) hb0
    have es : sumI E ((bl (vO (hX neg E o A.length c l) (aX o) A.length) : Nat) : Int) = E + (bitLen (vb 65536 A) : Nat) := by
      rw [hv, bl_bitLen]
      unfold sumI
      exact wrapI (by omega) (by omega)
    have hlg : lgN (vb 65536 A) E = E + (bitLen (vb 65536 A) : Nat) - 1 := rfl
    by_cases hbig : E + (bitLen (vb 65536 A) : Nat) > 1100
    · have hr := big_eq (m := m) (neg := neg) hT (show 1024 ≤ lgN (vb 65536 A) E by omega)
      refine (goesT_runsW (tabH_ok conQ_ok hcQ_ok) (ro_big neg E m o A.length c l g) (okCons (okP_ok (bey_rng m neg)) (okCons ?_ (okCons hok (okL1 e0))))).mono (ro_out ?_ ?_)
      · rw [es]
        exact decide_eq_true hbig
      · rw [hr.1]
      · rw [hr.2]
    · have nb : decide (sumI E ((bl (vO (hX neg E o A.length c l) (aX o) A.length) : Nat) : Int) > 1100) = false := by
        rw [es]
        exact decide_eq_false hbig
      rw [ro_code2]
      by_cases hlow : E + (bitLen (vb 65536 A) : Nat) < -1200
      · have lb : decide (sumI E ((bl (vO (hX neg E o A.length c l) (aX o) A.length) : Nat) : Int) < -1200) = true := by
          rw [es]
          exact decide_eq_true hlow
        have e1 : vb 65536 (d16 1) = 1 := vb_db (by omega) 1
        have eb : bitLen 1 = 1 := len_uniq (k := 0) (by decide) (by decide)
        have r1 := low_eq (m := m) (neg := neg) hT (show lgN (vb 65536 A) E ≤ -1100 by omega)
        have r2 := low_eq (m := m) (neg := neg) (T := 1) (E := -1300) (by decide) (by unfold lgN; rw [eb]; decide)
        refine goesT_listW (tabH_ok conQ_ok hcQ_ok) (ro_low neg E m o A.length c l g) (okCons (by rfl) (okCons (by rfl) (okCons lb (okCons nb (okCons hok (okL1 e0)))))) fun g' => ?_
        refine (ro_tail (L := [(wU (d16 1), tU)]) (b := 2) (o := 0) (n := (d16 1).length) (c := (d16 1).length) (b0 := (l, tR)) (x := (wU (d16 1), tU)) (A := d16 1) (E := -1300) (t := -1299) (neg := neg) (by decide) (fun h' hh => ⟨rowP_d16 hh (by rw [d16_one]; omega), rowOf_d16 hh⟩) rfl (can_db (by omega) 1) rfl (by rw [d16_one]; omega) (by omega) (by rw [e1]; omega) (by rw [e1, eb]; omega) (by omega) (vRN neg E (sl 0 o A.length c)) m g').mono fun ex z hz => ?_
        unfold roOut at hz ⊢
        rw [e1, r2.1, r2.2] at hz
        rw [r1.1, r1.2]
        exact hz
      · have lb : decide (sumI E ((bl (vO (hX neg E o A.length c l) (aX o) A.length) : Nat) : Int) < -1200) = false := by
          rw [es]
          exact decide_eq_false hlow
        refine goesT_listW (tabH_ok conQ_ok hcQ_ok) (ro_mid neg E m o A.length c l g) (okCons lb (okCons nb (okCons hok (okL1 e0)))) fun g' => ?_
        exact ro_tail (L := []) (b := 0) (b0 := (l, tR)) (x := (l, tR)) (neg := neg) (by decide) (fun h' hh => hF h' hh) rfl hC rfl (by omega) hE hT es (by omega) (vRN neg E (sl 0 o A.length c)) m g'
theorem ro_runs (hF : Fst l o c A) (hC : Canon 65536 A) (hn : A.length < 20000) {neg : Bool} {E : Int} (hE : -400000 ≤ E ∧ E ≤ 400000) (M : Int) :
    RunsW (tabH Try.prog extY conQ hcQ) (cBody Try.f28) ([vRN neg E (sl 0 o A.length c), .int .i64 M] ++ List.replicate 107 undef, ⟨1, [(l, tR)]⟩, []) (roOut M neg (vb 65536 A) E) := by
  have ecode : cBody Try.f28 = seqs (rS1 Try.f28) (tC Try.f28 2) := Option.some.inj (ro_body.symm.trans ro_body2)
  rw [ecode]
  have fin : ∀ m, m = mN M → ∀ g, RunsW (tabH Try.prog extY conQ hcQ) (tC Try.f28 2) ([vRN neg E (sl 0 o A.length c), .int .i64 m, .pointer (some ⟨1, 0, none⟩), undef, .int .u64 0, .int .i64 0] ++ tl 103 g, hX neg E o A.length c l, []) (roOut M neg (vb 65536 A) E) := fun m hm g => by
    have := ro_from2 (neg := neg) hF hC hn hE m g
    unfold roOut at this ⊢
    rw [hm, rnP_mN, rnF_mN] at this
    rw [hm]
    exact this
  by_cases h1 : M < 0
  · exact goesT_listW (tabH_ok conQ_ok hcQ_ok) (ro_m1 neg E M o A.length c l) (okL1 (decide_eq_true h1)) fun g => fin 0 (by unfold mN; rw [if_pos h1]) g
  · by_cases h2 : M > 4
    · exact goesT_listW (tabH_ok conQ_ok hcQ_ok) (ro_m2 neg E M o A.length c l) (okCons (decide_eq_true h2) (okL1 (decide_eq_false h1))) fun g => fin 0 (by unfold mN; rw [if_neg h1, if_pos h2]) g
    · exact goesT_listW (tabH_ok conQ_ok hcQ_ok) (ro_m3 neg E M o A.length c l) (okCons (decide_eq_false h2) (okL1 (decide_eq_false h1))) fun g => fin M (by unfold mN; rw [if_neg h1, if_neg h2]) g
end
end Go.Proofs.Ytehfjljnaencjaa

/-
  The document's Round (tillerref04), as a contract.
-/
namespace Go.Proofs.Ytehfjljnaencjaa
open Go.KRun Go.Nt Go.Wd Go.Rn
set_option maxRecDepth 100000
set_option linter.unusedVariables false

def okRo (h : Hp) (p : Option Addr) (n c : Nat) (E : Int) : Bool := rowP h p n c && canB (rowOf h p n) && Nat.blt n 20000 && decide (-400000 ≤ E ∧ E ≤ 400000)
def gRr : AnsH := fun vals h s =>
  match vals with
  | [.agg cs, .int .i64 M] =>
    match cs.toList with
    | [.bool neg, .int .i64 E, .slice (some ⟨b, o, none⟩) n c] => some (.tuple #[.int .u64 (sS neg (rnP M neg (vO h (some ⟨b, o, none⟩) n) E)), .int .i64 (rnF M neg (vO h (some ⟨b, o, none⟩) n) E)], h, s, [(okRo h (some ⟨b, o, none⟩) n c E, true)])
    | _ => none
  | _ => none
theorem gRr_ok : AnsHOk 28 gRr := by
  intro vals h s v h' s' lg hg hl m B w E0 hv
  unfold gRr at hg
  split at hg
  · rename_i cs M
    split at hg
    · rename_i neg E b o n c hcs
      have ecs : cs = #[.bool neg, .int .i64 E, sl b o n c] := by
        have := congrArg List.toArray hcs
        simpa [sl] using this
      cases hg
      have l3 := hl _ (List.mem_singleton.2 rfl)
      simp only [okRo, Bool.and_eq_true, decide_eq_true_eq] at l3
      obtain ⟨⟨⟨q1, q2⟩, q3⟩, q4⟩ := l3
      have q2 := canB_of q2
      have q3 := blt_iff.1 q3
      rcases rowP_cases q1 with ⟨h0, _⟩ | ⟨b', o', x, hp, hx, r1, rs, e0⟩
      · cases h0
      · cases hp
        rw [e0] at q2
        obtain ⟨h1, h2, h3, h4, h5, h6, h7⟩ := rowC_of r1
        have ev : vO h (some ⟨b, o, none⟩) n = vb 65536 (cutI x.1 o n) := by unfold vO; rw [e0]
        have r := ro_runs (fst_of r1 rs) q2 (by rw [h2]; exact q3) (neg := neg) q4 M
        rw [h2, ← ev] at r
        have evals : List.map (rn fun _ => b) [vRN neg E (sl 0 o n c), .int .i64 M] = [.agg cs, .int .i64 M] := by
          rw [ecs]
          simp [rn, rn2, rn1, vRN, sl]
        have fin := row_calls0 (T := tabH Try.prog extY conQ hcQ) Try.func28 ro_body (rows1 h7) (vals := [vRN neg E (sl 0 o n c), .int .i64 M]) (fun v hv => by
          simp only [List.mem_cons, List.not_mem_nil, or_false] at hv
          rcases hv with h1 | h1 <;> rw [h1] <;> rfl) (v := .tuple #[.int .u64 (sS neg (rnP M neg (vO h (some ⟨b, o, none⟩) n) E)), .int .i64 (rnF M neg (vO h (some ⟨b, o, none⟩) n) E)]) (by rfl) r E0 (fitsR1 hx h5 h6 rfl)
        rw [evals] at fin
        exact fin
    · cases hg
  · cases hg
end Go.Proofs.Ytehfjljnaencjaa

/-
  The document's Pattern (tillerref04), as a contract.
-/
namespace Go.Proofs.Ytehfjljnaencjaa
open Go.KRun Go.Nt Go.Wd Go.Rn Go.Pt
set_option maxRecDepth 100000
set_option linter.unusedVariables false

def conPt : Con := alt 37 (gU vT) conN
theorem conPt_ok : ConOk conPt := alt_ok Try.func37 rfl ref_ok conN_ok
theorem pt_body : Try.f27.body = some (cBody Try.f27) := by kernel_rfl
theorem pt_go (p : Int) : GoesT (evC (tabH Try.prog extY conPt hcW) 200 false (cBody Try.f27) ([.int .u64 p] ++ List.replicate 13 undef, ⟨0, []⟩, []) ⟨[], [], []⟩) 3 11 (some none) [.int .u64 p, undef, .pointer (some ⟨0, 0, none⟩)] ⟨3, [(wU (d16 (sg p).toNat), tU), ([.bool (sgn p), .int .i64 (cl p), .int .i64 (xp p), .int .u64 (sg p)], 63), bOf (sgn p) (xp p) (sOf 2 (sg p).toNat)]⟩ [(decide (0 ≤ sg p ∧ sg p < 18446744073709551616), true), (decide (U p), true)] := ⟨by kernel_rfl, by kernel_rfl, by kernel_rfl⟩
def gPt : AnsH := fun vals h s =>
  match vals with
  | [.int .u64 p] => some (vRN (sgn p) (xp p) (sOf h.n (sg p).toNat), h.push (wU (d16 (sg p).toNat)) tU, s, [(decide (U p), true)])
  | _ => none
theorem gPt_ok : AnsHOk 27 gPt := by
  intro vals h s v h' s' lg hg hl m B w E hv
  unfold gPt at hg
  split at hg
  · rename_i p
    cases hg
    have q := hl _ (List.mem_singleton.2 rfl)
    have hs := sg_lt p
    have hr : RunsW (tabH Try.prog extY conPt hcW) (cBody Try.f27) ([.int .u64 p] ++ List.replicate 13 undef, ⟨0, []⟩, []) fun e z => (e = none ∨ e = some none) ∧ ∃ k, resS Try.prog Try.f27 z.1 z.2.1 = some (vRN (sgn p) (xp p) (sOf k (sg p).toNat)) ∧ ∃ r, z.2.1.blk? k = some (wU (d16 (sg p).toNat) ++ r, tU) := by
      refine (goesT_runsW (tabH_ok conPt_ok hcW_ok) (pt_go p) (okCons (decide_eq_true ⟨hs.1, by omega⟩) (okL1 q))).mono fun e z he => ?_
      obtain ⟨rfl, ⟨g, e1⟩, e2⟩ := he
      exact ⟨.inr rfl, 2, by rw [e1, e2]; rfl, [], by rw [e2, List.append_nil]; rfl⟩
    have := row_calls2 (T := tabH Try.prog extY conPt hcW) Try.func27 pt_body (h0 := ⟨0, []⟩) ⟨rfl, fun b x hx => by have : b < 0 := Hp.blk_lt hx; omega⟩ (vals := [.int .u64 p]) (fun v hv => by rw [List.mem_singleton.1 hv]; rfl) (v := fun k => vRN (sgn p) (xp p) (sOf k (sg p).toNat)) (wU_lt _) (by kernel_rfl) hr (fun k => by simp [oc, oc2, oc1, sOf, sl, vRN]) E (s := fun i => i) (fun i x hx _ => by have : i < 0 := Hp.blk_lt hx; omega) (fun k => by simp [rn, rn2, rn1, sOf, sl, vRN])
    exact this
  · cases hg
end Go.Proofs.Ytehfjljnaencjaa
