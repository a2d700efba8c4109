/-
  The document's Sum (tillerref05) and Pattern (tillerref04), as contracts.
-/
import Derived.Test.YtgmfnecdpfdncaaDoorG25
import Derived.Test.YtgmfnecdpfdncaaDoorG21
namespace Go.Proofs.YtgmfnecdpfdncaaDoor
open Go.KRun Go.Nt Go.Wd Go.Rn
set_option maxRecDepth 100000
set_option linter.unusedVariables false

def okSm (h : Hp) (p q : Option Addr) (n c n' c' : Nat) (Ex Ey : Int) : Bool := rowP h p n c && canB (rowOf h p n) && Nat.blt n 20000 && (rowP h q n' c' && canB (rowOf h q n') && Nat.blt n' 20000) && decide ((-400000 ≤ Ex ∧ Ex ≤ 400000) ∧ (-400000 ≤ Ey ∧ Ey ≤ 400000))
def smH (h : Hp) (nx ny : Bool) (Ex Ey : Int) (b o n b' o' n' : Nat) : Int := smS nx ny Ex Ey n n' (vO h (ad b o) n) (vO h (ad b' o') n')
def gSm : AnsH := fun vals h s =>
  match vals, s with
  | [.agg cs, .agg ds, .int .i64 M], .inr (.inr (.inr (.inl d))) :: s' =>
    match cs.toList, ds.toList with
    | [.bool nx, .int .i64 Ex, .slice (some ⟨b, o, none⟩) n c], [.bool ny, .int .i64 Ey, .slice (some ⟨b', o', none⟩) n' c'] =>
      match d with
      | true => some (vRN (sgS M nx ny (smH h nx ny Ex Ey b o n b' o' n')) (lowS Ex Ey n n') (sOf h.n (smH h nx ny Ex Ey b o n b' o' n').natAbs), h.push (wU (d16 (smH h nx ny Ex Ey b o n b' o' n').natAbs)) tU, s', [(decide (smH h nx ny Ex Ey b o n b' o' n' ≠ 0), true), (okSm h (ad b o) (ad b' o') n c n' c' Ex Ey, true)])
      | false => some (vRN (sgS M nx ny (smH h nx ny Ex Ey b o n b' o' n')) (lowS Ex Ey n n') nilS, h, s', [(decide (smH h nx ny Ex Ey b o n b' o' n' ≠ 0), false), (okSm h (ad b o) (ad b' o') n c n' c' Ex Ey, true)])
    | _, _ => none
  | _, _ => none
theorem gSm_ok : AnsHOk 8 gSm := by
  intro vals h s v h' s' lg hg hl m B w E0 hv
  unfold gSm at hg
  split at hg
  · rename_i cs ds M d s2
    split at hg
    · rename_i nx Ex b o n c ny Ey b' o' n' c' hcs hds
      have ecs : cs = #[.bool nx, .int .i64 Ex, sl b o n c] := by
        have := congrArg List.toArray hcs
        simpa [sl] using this
      have eds : ds = #[.bool ny, .int .i64 Ey, sl b' o' n' c'] := by
        have := congrArg List.toArray hds
        simpa [sl] using this
      have key : okSm h (ad b o) (ad b' o') n c n' c' Ex Ey = true →
          ∃ la lb, (∀ v ∈ la, lt1 0 v = true) ∧ (∀ v ∈ lb, lt1 0 v = true) ∧ (h2 la lb).fits (pair b b') h ∧ RunsW (tabH Tryd.prog extY conN hcW) (cBody Tryd.f8) ([vRN nx Ex (sl 0 o n c), vRN ny Ey (sl 1 o' n' c'), .int .i64 M] ++ List.replicate 123 undef, h2 la lb, []) fun ex z => (ex = none ∨ ex = some none) ∧ smOut Tryd.f8 (smH h nx ny Ex Ey b o n b' o' n') (sgS M nx ny (smH h nx ny Ex Ey b o n b' o' n')) (lowS Ex Ey n n') z := by
        intro l3
        simp only [okSm, Bool.and_eq_true, decide_eq_true_eq] at l3
        obtain ⟨⟨⟨⟨q1, q2⟩, q3⟩, ⟨⟨p1, p2⟩, p3⟩⟩, q4⟩ := l3
        have q2 := canB_of q2
        have q3 := blt_iff.1 q3
        have p2 := canB_of p2
        have p3 := blt_iff.1 p3
        rcases rowP_cases q1 with ⟨h0, _⟩ | ⟨b1, o1, x, hp, hx, r1, rs, e0⟩
        · cases h0
        · cases hp
          rcases rowP_cases p1 with ⟨h0, _⟩ | ⟨b2, o2, y, hp', hy, t1, ts, f0⟩
          · cases h0
          · cases hp'
            rw [e0] at q2
            rw [f0] at p2
            obtain ⟨h1, h2', h3, h4, h5, h6, h7⟩ := rowC_of r1
            obtain ⟨k1, k2, k3, k4, k5, k6, k7⟩ := rowC_of t1
            have ev : vO h (ad b o) n = vb 65536 (cutI x.1 o n) := by unfold vO; rw [e0]
            have ev' : vO h (ad b' o') n' = vb 65536 (cutI y.1 o' n') := by unfold vO; rw [f0]
            have r := sum_runs (rowB_of 0 r1 rs) (rowB_of 1 t1 ts) q2 p2 (by rw [h2']; exact q3) (by rw [k2]; exact p3) (nx := nx) (ny := ny) q4.1 q4.2 M
            rw [h2', k2, ← ev, ← ev'] at r
            exact ⟨x.1, y.1, h7, k7, fitsR2 hx h5 h6 hy k5 k6, r⟩
      have evals : List.map (rn (pair b b')) [vRN nx Ex (sl 0 o n c), vRN ny Ey (sl 1 o' n' c'), .int .i64 M] = [.agg cs, .agg ds, .int .i64 M] := by
        rw [ecs, eds]
        simp [rn, rn2, rn1, vRN, sl, pair]
      split at hg
      · cases hg
        have l1 := hl _ (List.mem_cons_self)
        have l2 := hl _ (List.mem_cons_of_mem _ (List.mem_singleton.2 rfl))
        simp only [decide_eq_true_eq] at l1
        obtain ⟨la, lb, p0, p1, p2, p3⟩ := key l2
        have fin := row_calls2 (T := tabH Tryd.prog extY conN hcW) Tryd.func8 sum_body (rows2 p0 p1) (vals := [vRN nx Ex (sl 0 o n c), vRN ny Ey (sl 1 o' n' c'), .int .i64 M]) (fun v hv => by
          simp only [List.mem_cons, List.not_mem_nil, or_false] at hv
          rcases hv with h1 | h1 | h1 <;> rw [h1] <;> rfl) (v := fun k => vRN (sgS M nx ny (smH h nx ny Ex Ey b o n b' o' n')) (lowS Ex Ey n n') (sOf k (smH h nx ny Ex Ey b o n b' o' n').natAbs)) (wU_lt _) (by kernel_rfl) (p3.mono fun ex z hz => ⟨hz.1, hz.2.1 l1⟩) (fun k => by simp [oc, oc2, oc1, sOf, sl, vRN]) E0 p2 (fun k => by simp [rn, rn2, rn1, sOf, sl, vRN])
        rw [evals] at fin
        exact fin
      · cases hg
        have l1 := hl _ (List.mem_cons_self)
        have l2 := hl _ (List.mem_cons_of_mem _ (List.mem_singleton.2 rfl))
        simp only [decide_eq_false_iff_not, ne_eq, Decidable.not_not] at l1
        obtain ⟨la, lb, p0, p1, p2, p3⟩ := key l2
        have fin := row_calls0 (T := tabH Tryd.prog extY conN hcW) Tryd.func8 sum_body (rows2 p0 p1) (vals := [vRN nx Ex (sl 0 o n c), vRN ny Ey (sl 1 o' n' c'), .int .i64 M]) (fun v hv => by
          simp only [List.mem_cons, List.not_mem_nil, or_false] at hv
          rcases hv with h1 | h1 | h1 <;> rw [h1] <;> rfl) (v := vRN (sgS M nx ny (smH h nx ny Ex Ey b o n b' o' n')) (lowS Ex Ey n n') nilS) (by rfl) (p3.mono fun ex z hz => ⟨hz.1, hz.2.2 l1⟩) E0 p2
        rw [evals] at fin
        exact fin
    · cases hg
  · cases hg
end Go.Proofs.YtgmfnecdpfdncaaDoor

/-
  The document's Round of nothing, as a call in every world.
-/
namespace Go.Proofs.YtgmfnecdpfdncaaDoor
open Go.KRun Go.Nt Go.Wd Go.Rn Go.Pt
set_option maxRecDepth 100000
set_option linter.unusedVariables false

/-! ### Round of nothing -/
def r0V (neg : Bool) : Value := .tuple #[.int .u64 (sS neg 0), .int .i64 0]
theorem r0a (neg : Bool) (E M : Int) : Fits (reckon (tabOf Tryd.prog extY conN true) 200 11 [vRN neg E nilS, .int .i64 M] [cmp true, cmp true]) (r0V neg) [(((0 : Nat) : Int) == 0, true), (decide (M < 0), true)] := by
  cases neg <;> exact ⟨by kernel_rfl, by kernel_rfl, by kernel_rfl, by kernel_rfl⟩
theorem r0b (neg : Bool) (E M : Int) : Fits (reckon (tabOf Tryd.prog extY conN true) 200 11 [vRN neg E nilS, .int .i64 M] [cmp false, cmp true, cmp true]) (r0V neg) [(((0 : Nat) : Int) == 0, true), (decide (M > 4), true), (decide (M < 0), false)] := by
  cases neg <;> exact ⟨by kernel_rfl, by kernel_rfl, by kernel_rfl, by kernel_rfl⟩
theorem r0c (neg : Bool) (E M : Int) : Fits (reckon (tabOf Tryd.prog extY conN true) 200 11 [vRN neg E nilS, .int .i64 M] [cmp false, cmp false, cmp true]) (r0V neg) [(((0 : Nat) : Int) == 0, true), (decide (M > 4), false), (decide (M < 0), false)] := by
  cases neg <;> exact ⟨by kernel_rfl, by kernel_rfl, by kernel_rfl, by kernel_rfl⟩
def gR0 : Ans := fun vals s =>
  match vals with
  | [.agg cs, .int .i64 M] =>
    match cs.toList with
    | [.bool neg, .int .i64 E, .slice none 0 0] => some (r0V neg, s, [])
    | _ => none
  | _ => none
theorem gR0_ok : AnsOk 11 gR0 := by
  intro vals s v s' lg h hl w
  unfold gR0 at h
  split at h
  · rename_i cs M
    split at h
    · rename_i neg E hcs
      have ecs : cs = #[.bool neg, .int .i64 E, nilS] := by
        have := congrArg List.toArray hcs
        simpa [nilS] using this
      cases h
      rw [ecs]
      by_cases h0 : M < 0
      · exact fits_calls (tabY_ok conN_ok) (r0a neg E M) (okCons rfl (okL1 (decide_eq_true h0))) (by rfl) (by rfl) w
      · by_cases h4 : M > 4
        · exact fits_calls (tabY_ok conN_ok) (r0b neg E M) (okCons rfl (okCons (decide_eq_true h4) (okL1 (decide_eq_false h0)))) (by rfl) (by rfl) w
        · exact fits_calls (tabY_ok conN_ok) (r0c neg E M) (okCons rfl (okCons (decide_eq_false h4) (okL1 (decide_eq_false h0)))) (by rfl) (by rfl) w
    · cases h
  · cases h

end Go.Proofs.YtgmfnecdpfdncaaDoor

/-
  What is known of wide, for sums; what is known of layer 5's helpers: fits, top, inUnits, together, apart.
-/
namespace Go.Proofs.YtgmfnecdpfdncaaDoor
open Go.KRun Go.Wd Go.Pt Go.Rn
set_option maxRecDepth 100000

def conWs : Con := alt 40 (g1n (plain1n shlV4)) (alt 41 (g1n (plain1n shrV4)) (alt 39 (g1 lenV4) (alt 42 (g2 (plain2 addV4)) (alt 43 (g2 (plain2 subV4)) (alt 16 (g2 cmpN) conN)))))
theorem conWs_ok : ConOk conWs := alt_ok Tryd.func40 rfl (plain1n_ok shl_calls) (alt_ok Tryd.func41 rfl (plain1n_ok shr_calls) (alt_ok Tryd.func39 rfl (g1_ok wlen_calls) (alt_ok Tryd.func42 rfl (plain2_ok add_calls) (alt_ok Tryd.func43 rfl (plain2_ok sub_calls) (alt_ok Tryd.func16 rfl cmpN_ok conN_ok)))))

/-! ### fits -/
def lL (x : W4) (d : Bool) : Bool × Bool := (decide (lenI x ≤ 128), d)
def lO (x : W4) : Bool × Bool := (decide x.ok, true)
theorem ft1 (n b : Bool) (x : W4) (ex : Int) : Fits (reckon (tabOf Tryd.prog extY conWs true) 300 12 [vN n ex x b] [cmp false]) (.bool false) [lL x false, lO x] := ⟨by kernel_rfl, by kernel_rfl, by kernel_rfl, by kernel_rfl⟩
theorem ft2 (n : Bool) (x : W4) (ex : Int) : Fits (reckon (tabOf Tryd.prog extY conWs true) 300 12 [vN n ex x true] [cmp true]) (.bool false) [lL x true, lO x] := ⟨by kernel_rfl, by kernel_rfl, by kernel_rfl, by kernel_rfl⟩
theorem ft3 (n : Bool) (x : W4) (ex : Int) : Fits (reckon (tabOf Tryd.prog extY conWs true) 300 12 [vN n ex x false] [cmp true, cmp false]) (.bool false) [(decide (-100000 ≤ ex), false), lL x true, lO x] := ⟨by kernel_rfl, by kernel_rfl, by kernel_rfl, by kernel_rfl⟩
theorem ft4 (n : Bool) (x : W4) (ex : Int) : Fits (reckon (tabOf Tryd.prog extY conWs true) 300 12 [vN n ex x false] [cmp true, cmp true]) (.bool (decide (ex ≤ 100000))) [(decide (-100000 ≤ ex), true), lL x true, lO x] := ⟨by kernel_rfl, by kernel_rfl, by kernel_rfl, by kernel_rfl⟩
def mayB (ex : Int) (x : W4) (b : Bool) : Bool := decide (lenI x ≤ 128) && !b && decide (-100000 ≤ ex) && decide (ex ≤ 100000)
theorem fits5_calls (n b : Bool) (x : W4) (ex : Int) (hx : x.ok) (w : World) : Calls Tryd.prog 12 #[vN n ex x b] w fun r w' => r = .returned (.bool (mayB ex x b)) ∧ Tidy w w' := by
  have hv : ([vN n ex x b].all (lt 0)) = true := rfl
  have kx : decide x.ok = true := decide_eq_true hx
  unfold mayB
  by_cases hl : lenI x ≤ 128
  · have kl : decide (lenI x ≤ 128) = true := decide_eq_true hl
    rw [kl]
    cases b with
    | true => exact fits_calls (tabY_ok conWs_ok) (ft2 n x ex) (okCons kl (okL1 kx)) hv (by rfl) w
    | false =>
      by_cases he : -100000 ≤ ex
      · have ke : decide (-100000 ≤ ex) = true := decide_eq_true he
        rw [ke]
        exact fits_calls (tabY_ok conWs_ok) (ft4 n x ex) (okCons ke (okCons kl (okL1 kx))) hv (by rfl) w
      · have ke : decide (-100000 ≤ ex) = false := decide_eq_false he
        rw [ke]
        exact fits_calls (tabY_ok conWs_ok) (ft3 n x ex) (okCons ke (okCons kl (okL1 kx))) hv (by rfl) w
  · have kl : decide (lenI x ≤ 128) = false := decide_eq_false hl
    rw [kl]
    exact fits_calls (tabY_ok conWs_ok) (ft1 n b x ex) (okCons kl (okL1 kx)) hv (by rfl) w
def gFt : Ans := fun vals s =>
  match vals with
  | [v] =>
    match n7 v with
    | some (_, ex, x, b) => some (.bool (pickC (mayB ex x b) s).1, (pickC (mayB ex x b) s).2.1, (pickC (mayB ex x b) s).2.2 ++ [(decide x.ok, true)])
    | none => none
  | _ => none
theorem gFt_ok : AnsOk 12 gFt := by
  intro vals s v s' lg h hl w
  unfold gFt at h
  split at h
  · split at h
    · rename_i n ex x b hn
      cases h
      rw [n7_spec hn, pickC_ok (fun p hp => hl p (List.mem_append_left _ hp))]
      exact fits5_calls n b x ex (of_decide_eq_true (hl _ (List.mem_append_right _ (List.mem_singleton.2 rfl)))) w
    · cases h
  · cases h

/-! ### top -/
theorem tp1 (n b : Bool) (x : W4) (ex : Int) : Fits (reckon (tabOf Tryd.prog extY conWs true) 300 13 [vN n ex x b] [sam true]) (.int .i64 (-100000)) [(eqW x ⟨0, 0, 0, 0⟩, true)] := ⟨by kernel_rfl, by kernel_rfl, by kernel_rfl, by kernel_rfl⟩
theorem tp2 (n b : Bool) (x : W4) (ex : Int) : Fits (reckon (tabOf Tryd.prog extY conWs true) 300 13 [vN n ex x b] [sam false]) (.int .i64 (IntKind.i64.wrap (ex + lenI x))) [lO x, (eqW x ⟨0, 0, 0, 0⟩, false)] := ⟨by kernel_rfl, by kernel_rfl, by kernel_rfl, by kernel_rfl⟩
def okTp (x : W4) (ex : Int) : Bool := decide (x.ok ∧ -200000 ≤ ex ∧ ex ≤ 200000)
theorem nat_zero {x : W4} (h : x.ok) : x.nat = 0 ↔ eqW x ⟨0, 0, 0, 0⟩ = true := by
  rw [eqW_iff]
  constructor
  · intro h0; rw [← ofN_self h, h0, ofN_zero]
  · intro h0; rw [h0]; rfl
theorem top_calls (n b : Bool) (x : W4) (ex : Int) (h : x.ok ∧ -200000 ≤ ex ∧ ex ≤ 200000) (w : World) : Calls Tryd.prog 13 #[vN n ex x b] w fun r w' => r = .returned (.int .i64 (topN ex x.nat)) ∧ Tidy w w' := by
  have hv : ([vN n ex x b].all (lt 0)) = true := rfl
  unfold topN
  cases he : eqW x ⟨0, 0, 0, 0⟩ with
  | true =>
    rw [if_pos ((nat_zero h.1).2 he)]
    exact fits_calls (tabY_ok conWs_ok) (tp1 n b x ex) (okL1 he) hv (by rfl) w
  | false =>
    have hz : ¬ x.nat = 0 := fun h0 => by rw [(nat_zero h.1).1 h0] at he; cases he
    have hl := len256 h.1
    have e : IntKind.i64.wrap (ex + lenI x) = ex + (bitLen x.nat : Nat) := by rw [lenI_nat, wrapI' ⟨by omega, by omega⟩]
    rw [if_neg hz, ← e]
    exact fits_calls (tabY_ok conWs_ok) (tp2 n b x ex) (okCons (decide_eq_true h.1) (okL1 he)) hv (by rfl) w
def gTp : Ans := fun vals s =>
  match vals with
  | [v] =>
    match n7 v with
    | some (_, ex, x, _) => some (.int .i64 (topN ex x.nat), s, [(okTp x ex, true)])
    | none => none
  | _ => none
theorem gTp_ok : AnsOk 13 gTp := by
  intro vals s v s' lg h hl w
  unfold gTp at h
  split at h
  · split at h
    · rename_i n ex x b hn
      cases h
      rw [n7_spec hn]
      exact top_calls n b x ex (of_decide_eq_true (hl _ (List.mem_singleton.2 rfl))) w
    · cases h
  · cases h

/-! ### inUnits -/
def lW' (x : W4) (n : Int) : Bool × Bool := (decide (x.ok ∧ -9223372036854775808 ≤ n ∧ n ≤ 9223372036854775807), true)
theorem iu1 (n b : Bool) (x : W4) (ex u : Int) : Fits (reckon (tabOf Tryd.prog extY conWs true) 300 14 [vN n ex x b, .int .i64 u] [cmp true]) (vN n u (shlW x (IntKind.i64.wrap (ex - u))) false) [lW' x (IntKind.i64.wrap (ex - u)), (decide (ex ≥ u), true)] := ⟨by kernel_rfl, by kernel_rfl, by kernel_rfl, by kernel_rfl⟩
theorem iu2 (n b : Bool) (x : W4) (ex u : Int) : Fits (reckon (tabOf Tryd.prog extY conWs true) 300 14 [vN n ex x b, .int .i64 u] [cmp false]) (vN n u (shrW x (IntKind.i64.wrap (u - ex))) (shrL x (IntKind.i64.wrap (u - ex)))) [lW' x (IntKind.i64.wrap (u - ex)), (decide (ex ≥ u), false)] := ⟨by kernel_rfl, by kernel_rfl, by kernel_rfl, by kernel_rfl⟩
def okIu (x : W4) (ex u : Int) : Bool := decide (x.ok ∧ -200000 ≤ ex ∧ ex ≤ 200000 ∧ -400000 ≤ u ∧ u ≤ 400000)
theorem iu_calls (n b : Bool) (x : W4) (ex u : Int) (h : x.ok ∧ -200000 ≤ ex ∧ ex ≤ 200000 ∧ -400000 ≤ u ∧ u ≤ 400000) (w : World) : Calls Tryd.prog 14 #[vN n ex x b, .int .i64 u] w fun r w' => r = .returned (vN n u (ofN (iuQ ex u x.nat)) (iuB ex u x.nat)) ∧ Tidy w w' := by
  have hv : ([vN n ex x b, .int .i64 u].all (lt 0)) = true := rfl
  unfold iuQ iuB
  by_cases hu : u ≤ ex
  · rw [if_pos hu, if_pos hu]
    have e : IntKind.i64.wrap (ex - u) = ex - u := wrapI' ⟨by omega, by omega⟩
    have hf := iu1 n b x ex u
    rw [e, shlW_nat h.1 (by omega)] at hf
    exact fits_calls (tabY_ok conWs_ok) hf (okCons (lok_ok h.1 (by omega) (by omega)) (okL1 (decide_eq_true hu))) hv (by rfl) w
  · rw [if_neg hu, if_neg hu]
    have e : IntKind.i64.wrap (u - ex) = u - ex := wrapI' ⟨by omega, by omega⟩
    have hf := iu2 n b x ex u
    rw [e, shrW_nat h.1 (by omega), shrL_nat h.1 (by omega)] at hf
    exact fits_calls (tabY_ok conWs_ok) hf (okCons (lok_ok h.1 (by omega) (by omega)) (okL1 (decide_eq_false hu))) hv (by rfl) w
def gIu : Ans := fun vals s =>
  match vals with
  | [v, .int .i64 u] =>
    match n7 v with
    | some (n, ex, x, _) => some (vN n u (ofN (iuQ ex u x.nat)) (iuB ex u x.nat), s, [(okIu x ex u, true)])
    | none => none
  | _ => none
theorem gIu_ok : AnsOk 14 gIu := by
  intro vals s v s' lg h hl w
  unfold gIu at h
  split at h
  · split at h
    · rename_i n ex x b hn
      cases h
      rw [n7_spec hn]
      exact iu_calls n b x ex _ (of_decide_eq_true (hl _ (List.mem_singleton.2 rfl))) w
    · cases h
  · cases h

/-! ### together -/
def lTwo (x y : W4) : Bool × Bool := (decide (x.ok ∧ y.ok), true)
theorem tg (n p a b : Bool) (x y : W4) (ex u : Int) : Fits (reckon (tabOf Tryd.prog extY conWs true) 300 15 [vN n ex x a, vN p u y b] []) (vN n ex (W4.of (x.val + y.val)) (a || b)) [lTwo x y] := by
  cases a <;> exact ⟨by kernel_rfl, by kernel_rfl, by kernel_rfl, by kernel_rfl⟩
theorem add_nat {x y : W4} (hx : x.ok) (hy : y.ok) : W4.of (x.val + y.val) = ofN (x.nat + y.nat) := by
  unfold ofN
  rw [W4.nat_val hx, W4.nat_val hy]
  congr 1
theorem sub_nat {x y : W4} (hx : x.ok) (hy : y.ok) (h : y.nat ≤ x.nat) : W4.of (x.val - y.val) = ofN (x.nat - y.nat) := by
  unfold ofN
  rw [W4.nat_val hx, W4.nat_val hy]
  congr 1
  omega
def gTg : Ans := fun vals s =>
  match vals with
  | [v, t] =>
    match n7 v with
    | some (n, ex, x, a) =>
      match n7 t with
      | some (_, _, y, b) => some (vN n ex (ofN (x.nat + y.nat)) (a || b), s, [(decide (x.ok ∧ y.ok), true)])
      | none => none
    | none => none
  | _ => none
theorem gTg_ok : AnsOk 15 gTg := by
  intro vals s v s' lg h hl w
  unfold gTg at h
  split at h
  · split at h
    · rename_i n ex x a hn
      split at h
      · rename_i p u y b hp
        cases h
        rw [n7_spec hn, n7_spec hp]
        obtain ⟨hx, hy⟩ := of_decide_eq_true (hl _ (List.mem_singleton.2 rfl))
        rw [← add_nat hx hy]
        exact fits_calls (tabY_ok conWs_ok) (tg n p a b x y ex u) (okL1 (decide_eq_true ⟨hx, hy⟩)) (by rfl) (by rfl) w
      · cases h
    · cases h
  · cases h

/-! ### apart -/
theorem ap1 (n p a : Bool) (x y : W4) (ex u : Int) : Fits (reckon (tabOf Tryd.prog extY conWs true) 300 17 [vN n ex x a, vN p u y false] []) (vN n ex (W4.of (x.val - y.val)) a) [lTwo x y] := ⟨by kernel_rfl, by kernel_rfl, by kernel_rfl, by kernel_rfl⟩
def sb4 (x y : W4) : W4 := ⟨(W4.of (x.val - y.val)).a, (W4.of (x.val - y.val)).b, (W4.of (x.val - y.val)).c, (W4.of (x.val - y.val)).d⟩
theorem sb4_eq (x y : W4) : sb4 x y = W4.of (x.val - y.val) := rfl
/-- where the region that draws its order ends -/
def apE (n p a : Bool) (x y : W4) (ex u : Int) : Lf := ([.agg { toList := [.bool n, .int .i64 ex, .int .u64 x.a, .int .u64 x.b, .int .u64 x.c, .int .u64 x.d, .bool a] }, .agg { toList := [.bool p, .int .i64 u, .int .u64 y.a, .int .u64 y.b, .int .u64 y.c, .int .u64 y.d, .bool true] }, .pointer (some { block := 0, off := 0 }), .pointer (some { block := 1, off := 0 }), .pointer (some { block := 2, off := 0 }), .tuple { toList := [.agg { toList := [.int .u64 (W4.of (x.val - y.val)).a, .int .u64 (W4.of (x.val - y.val)).b, .int .u64 (W4.of (x.val - y.val)).c, .int .u64 (W4.of (x.val - y.val)).d] }, .bool (decide (x.val < y.val))] }, .pointer (some { block := 0, off := 2 }), .agg { toList := [.int .u64 x.a, .int .u64 x.b, .int .u64 x.c, .int .u64 x.d] }, .pointer (some { block := 1, off := 2 }), .agg { toList := [.int .u64 y.a, .int .u64 y.b, .int .u64 y.c, .int .u64 y.d] }, .tuple { toList := [.agg { toList := [.int .u64 (W4.of (x.val - y.val)).a, .int .u64 (W4.of (x.val - y.val)).b, .int .u64 (W4.of (x.val - y.val)).c, .int .u64 (W4.of (x.val - y.val)).d] }, .bool (decide (x.val < y.val))] }, .agg { toList := [.int .u64 (W4.of (x.val - y.val)).a, .int .u64 (W4.of (x.val - y.val)).b, .int .u64 (W4.of (x.val - y.val)).c, .int .u64 (W4.of (x.val - y.val)).d] }, .bool (decide (x.val < y.val)), .pointer (some { block := 0, off := 2 }), .pointer (some { block := 1, off := 6 }), .bool true, .tuple { toList := [.agg { toList := [.int .u64 (W4.of ((sb4 x y).val - w1.val)).a, .int .u64 (W4.of ((sb4 x y).val - w1.val)).b, .int .u64 (W4.of ((sb4 x y).val - w1.val)).c, .int .u64 (W4.of ((sb4 x y).val - w1.val)).d] }, .bool (decide ((sb4 x y).val < w1.val))] }, .pointer (some { block := 0, off := 2 }), .agg { toList := [.int .u64 (W4.of (x.val - y.val)).a, .int .u64 (W4.of (x.val - y.val)).b, .int .u64 (W4.of (x.val - y.val)).c, .int .u64 (W4.of (x.val - y.val)).d] }, .agg { toList := [.int .u64 1, .int .u64 0, .int .u64 0, .int .u64 0] }, .tuple { toList := [.agg { toList := [.int .u64 (W4.of ((sb4 x y).val - w1.val)).a, .int .u64 (W4.of ((sb4 x y).val - w1.val)).b, .int .u64 (W4.of ((sb4 x y).val - w1.val)).c, .int .u64 (W4.of ((sb4 x y).val - w1.val)).d] }, .bool (decide ((sb4 x y).val < w1.val))] }, .agg { toList := [.int .u64 (W4.of ((sb4 x y).val - w1.val)).a, .int .u64 (W4.of ((sb4 x y).val - w1.val)).b, .int .u64 (W4.of ((sb4 x y).val - w1.val)).c, .int .u64 (W4.of ((sb4 x y).val - w1.val)).d] }, .bool (decide ((sb4 x y).val < w1.val)), .pointer (some { block := 0, off := 2 }), .tuple { toList := [] }, .tuple { toList := [] }], { n := 3, l := [([.bool false, .int .i64 0, .int .u64 0, .int .u64 0, .int .u64 0, .int .u64 0, .bool false], 28), ([.bool p, .int .i64 u, .int .u64 y.a, .int .u64 y.b, .int .u64 y.c, .int .u64 y.d, .bool true], 28), ([.bool n, .int .i64 ex, .int .u64 (W4.of ((sb4 x y).val - w1.val)).a, .int .u64 (W4.of ((sb4 x y).val - w1.val)).b, .int .u64 (W4.of ((sb4 x y).val - w1.val)).c, .int .u64 (W4.of ((sb4 x y).val - w1.val)).d, .bool a], 28)] }, [])
theorem ap2 (n p a : Bool) (x y : W4) (ex u : Int) : Fits (reckon (tabOf Tryd.prog extY conWs true) 300 17 [vN n ex x a, vN p u y true] []) (vN n ex (W4.of ((sb4 x y).val - w1.val)) true) [lTwo (sb4 x y) w1, lTwo (sb4 x y) w1, lTwo x y] :=
  ⟨by kernel_rfl, by kernel_rfl, Eq.trans (b := some [apE n p a x y ex u]) (by kernel_rfl) (by kernel_rfl), by kernel_rfl⟩
def apQ (p q : Nat) (b : Bool) : Nat := p - q - bN b
def gAp : Ans := fun vals s =>
  match vals with
  | [v, t] =>
    match n7 v with
    | some (n, ex, x, a) =>
      match n7 t with
      | some (_, _, y, b) => some (vN n ex (ofN (apQ x.nat y.nat b)) (a || b), s, [(decide (x.ok ∧ y.ok ∧ y.nat < x.nat), true)])
      | none => none
    | none => none
  | _ => none
theorem gAp_ok : AnsOk 17 gAp := by
  intro vals s v s' lg h hl w
  unfold gAp at h
  split at h
  · split at h
    · rename_i n ex x a hn
      split at h
      · rename_i p u y b hp
        cases h
        rw [n7_spec hn, n7_spec hp]
        obtain ⟨hx, hy, hlt⟩ := of_decide_eq_true (hl _ (List.mem_singleton.2 rfl))
        have hxl := W4.nat_lt hx
        have hw : w1.ok := by decide
        have h1 : w1.nat = 1 := by decide
        have e1 := sub_nat hx hy (by omega)
        have e2 : (ofN (x.nat - y.nat)).nat = x.nat - y.nat := ofN_nat (by omega)
        cases b with
        | false =>
          have e : ofN (apQ x.nat y.nat false) = W4.of (x.val - y.val) := by rw [e1]; rfl
          rw [e, Bool.or_false]
          exact fits_calls (tabY_ok conWs_ok) (ap1 n p a x y ex u) (okL1 (decide_eq_true ⟨hx, hy⟩)) (by rfl) (by rfl) w
        | true =>
          have e : ofN (apQ x.nat y.nat true) = W4.of ((sb4 x y).val - w1.val) := by
            rw [sb4_eq, e1, sub_nat (ofN_ok _) hw (by omega), e2, h1]
            rfl
          rw [e, Bool.or_true]
          exact fits_calls (tabY_ok conWs_ok) (ap2 n p a x y ex u) (okCons (decide_eq_true ⟨by rw [sb4_eq]; exact W4.ok_of _, hw⟩) (okCons (decide_eq_true ⟨by rw [sb4_eq]; exact W4.ok_of _, hw⟩) (okL1 (decide_eq_true ⟨hx, hy⟩)))) (by rfl) (by rfl) w
      · cases h
    · cases h
  · cases h
def conSu : Con := alt 12 gFt (alt 13 gTp (alt 14 gIu (alt 15 gTg (alt 17 gAp conWs))))
theorem conSu_ok : ConOk conSu := alt_ok Tryd.func12 rfl gFt_ok (alt_ok Tryd.func13 rfl gTp_ok (alt_ok Tryd.func14 rfl gIu_ok (alt_ok Tryd.func15 rfl gTg_ok (alt_ok Tryd.func17 rfl gAp_ok conWs_ok))))
end Go.Proofs.YtgmfnecdpfdncaaDoor
