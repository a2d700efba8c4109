/-
  The document's quotient and rest (tillerref02.Parts), III: a round.
-/
import Derived.Test.YtbcpnpchioncbaaG28
import Derived.Test.YtbcpnpchioncbaaG12
namespace Go.Proofs.Ytbcpnpchioncbaa
open Go.KRun Go.Nt
set_option maxRecDepth 100000
set_option linter.unusedVariables false

section
variable {la lb : List Value} {o c o' c' : Nat} {A L : List Int}
/-- what the row that is left was before the next part: nothing, or a number -/
def rIn (V : Nat) (Q : List Int) (la lb : List Value) (r : Value) (h : Hp) : Prop := (V = 0 ∧ r = nilS ∧ h = hB3 (wU Q) lb la) ∨ (r = sl 3 0 (d16 V).length (d16 V).length ∧ h = hB4 (wU (d16 V)) (wU Q) lb la)
theorem pa_seven (H : Two la lb o o' c' A L) {V : Nat} (hV : V < vb 65536 L) {Q : List Int} {k : Nat} (hk : k < A.length) {v10 v11 : Value} (k1 : KRun.lt 4 v10 = true) (k2 : KRun.lt 4 v11 = true) (s1 : ∀ b : Nat, rn (keepK 3 b) v10 = v10) (s2 : ∀ b : Nat, rn (keepK 3 b) v11 = v11) {r : Value} {h : Hp} (hr : rIn V Q la lb r h) (g : Nat → Value) (s : List Dec) :
    RunsW (tabH Try.prog extY conN hcP) (x7 Try.f25) (pFr o A.length c o' L.length c' A.length r ((k : Nat) : Int) v10 v11 ++ tl 83 g, h, s) fun e z => e = none ∧ (∃ g, z.1 = pFr o A.length c o' L.length c' A.length (sl 3 0 (d16 ((A.getD k 0).toNat + 65536 * V)).length (d16 ((A.getD k 0).toNat + 65536 * V)).length) ((k : Nat) : Int) v10 v11 ++ tl 83 g) ∧ z.2.1 = hB4 (wU (d16 ((A.getD k 0).toNat + 65536 * V))) (wU Q) lb la := by
  have hd := at_dg H.dA k
  generalize hdd : A.getD k 0 = d at *
  obtain ⟨t1, t2⟩ := next_row V hd
  have b2 := H.bnd.2.1
  have hlen : (d16 V).length ≤ L.length := len_le16 (Nat.lt_trans hV b2)
  have n2 := H.n2
  have gc : cellIs (la[o + ((k : Nat) : Int).toNat * 1]?) (.int .u32 d) = true := by rw [Int.toNat_natCast, Nat.mul_one, H.ra.cell hk, hdd]; simp [cellIs]
  have gi : decide (0 ≤ ((k : Nat) : Int) ∧ ((k : Nat) : Int) < ((A.length : Nat) : Int)) = true := decide_eq_true (by omega)
  have one : rowC tU [.int .u32 d] 0 1 1 = true := rowC_wU (L := [d]) (rng_of hd) (by show 1 < _; omega) (capS (by show 1 < _; omega))
  have c1 : cutI [.int .u32 d] 0 1 = [d] := cut_wU [d]
  have lt' : ∀ t : Nat, ∀ v ∈ pFr o A.length c o' L.length c' A.length (sl 3 0 t t) ((k : Nat) : Int) v10 v11, KRun.lt 4 v = true := fun t => pFr_lt k1 k2
  have front : ∀ b t : Nat, 3 ≤ b → (pFr o A.length c o' L.length c' A.length (sl 3 0 t t) ((k : Nat) : Int) v10 v11).map (rn (keepK 3 b)) = pFr o A.length c o' L.length c' A.length (sl b 0 t t) ((k : Nat) : Int) v10 v11 := fun b t hb => by
    simp only [pFr, List.map_cons, List.map_nil, s1, s2]
    kernel_rfl
  by_cases h0 : V = 0
  · subst h0
    have e0 : d16 0 = [] := db_zero _
    rw [e0] at t1 t2
    rcases hr with ⟨_, rfl, rfl⟩ | ⟨rfl, rfl⟩
    · have r := goesT_runsW (s0 := s) T0_ok (pa_7n o A.length c o' L.length c' A.length v10 v11 ((k : Nat) : Int) d (wU Q) lb la g) (okTwo one (okTwo gc (okOne gi)))
      rw [c1, t1] at r
      exact r.keptP (k := 3) (b := 3) (base := [(wU Q, tU), (lb, tR), (la, tR)]) (y := (wU (d16 (d.toNat + 65536 * 0)), tU)) (r := wU ([d].drop (trimN [d]))) rfl (front 3 _ (Nat.le_refl _)) (base3 (wU_still Q) H.sb H.sa rfl rfl rfl) (by
        show some ([Value.int .u32 d], tU) = _
        rw [← t2]; rfl) (Nat.le_refl _) (wU_still _) (lt' _)
    · rw [e0]
      have r := goesT_runsW (s0 := s) T0_ok (pa_7e o A.length c o' L.length c' A.length v10 v11 ((k : Nat) : Int) d (wU []) (wU Q) lb la g) (okTwo one (okTwo gc (okOne gi)))
      rw [c1, t1] at r
      exact r.keptP (k := 3) (b := 4) (base := [(wU Q, tU), (lb, tR), (la, tR)]) (y := (wU (d16 (d.toNat + 65536 * 0)), tU)) (r := wU ([d].drop (trimN [d]))) rfl (front 4 _ (by omega)) (base3 (wU_still Q) H.sb H.sa rfl rfl rfl) (by
        show some ([Value.int .u32 d], tU) = _
        rw [← t2]; rfl) (by omega) (wU_still _) (lt' _)
  · rcases hr with ⟨h1, _, _⟩ | ⟨rfl, rfl⟩
    · exact absurd h1 h0
    · have hpos : 0 < (d16 V).length := by
        rcases Nat.eq_zero_or_pos (d16 V).length with h1 | h1
        · exact absurd ((db_nil (b := 65536) (by omega)).1 (List.eq_nil_of_length_eq_zero h1)) h0
        · exact h1
      have et : List.take (d16 V).length (List.drop 0 (wU (d16 V))) = wU (d16 V) := by rw [List.drop_zero, ← wU_len, List.take_length]
      have e1 : [.int .u32 d] ++ List.take (d16 V).length (List.drop 0 (wU (d16 V))) = wU (d :: d16 V) := by rw [et]; rfl
      have hD : ∀ x ∈ d :: d16 V, 0 ≤ x ∧ x < 4294967296 := fun x hx => by
        rcases List.mem_cons.1 hx with rfl | hx
        · exact ⟨hd.1, by have := hd.2; omega⟩
        · exact d16_rng V x hx
      have row : rowC tU (wU (d :: d16 V)) 0 (1 + (d16 V).length) grown = true := by
        have := rowC_wU (L := d :: d16 V) hD (by simp only [List.length_cons]; omega) (c := grown) (capG _)
        rw [List.length_cons, Nat.add_comm] at this
        exact this
      have chz : appChz ([.int .u32 d], tU) (wU (d16 V), tU) 1 1 0 (d16 V).length = true := appChz_of (L := [d]) (M := d16 V) rfl rfl hpos (by simp only [List.length_singleton]; omega)
      have cD : cutI (wU (d :: d16 V)) 0 (1 + (d16 V).length) = d :: d16 V := by
        have := cut_wU (d :: d16 V)
        rw [List.length_cons, Nat.add_comm] at this
        exact this
      have q := pa_7s o A.length c o' L.length c' A.length (d16 V).length v10 v11 ((k : Nat) : Int) d (wU (d16 V)) (wU Q) lb la g
      rw [e1] at q
      have r := goesT_runsW (s0 := s) T0_ok q (okTwo row (okTwo chz (okTwo gc (okOne gi))))
      rw [cD, t1] at r
      exact r.keptP (k := 3) (b := 5) (base := [(wU Q, tU), (lb, tR), (la, tR)]) (y := (wU (d16 (d.toNat + 65536 * V)), tU)) (r := wU ((d :: d16 V).drop (trimN (d :: d16 V)))) rfl (front 5 _ (by omega)) (base3 (wU_still Q) H.sb H.sa rfl rfl rfl) (by
        show some (wU (d :: d16 V), tU) = _
        rw [← t2]) (by omega) (wU_still _) (lt' _)
end
end Go.Proofs.Ytbcpnpchioncbaa

/-
  The document's quotient and rest (tillerref02.Parts), IV: the loops; as a contract.
-/
namespace Go.Proofs.Ytbcpnpchioncbaa
open Go.KRun Go.Nt
set_option maxRecDepth 100000
set_option linter.unusedVariables false

section
variable {la lb : List Value} {o c o' c' : Nat} {A L : List Int}
theorem cmpZ_lt (a b : Nat) : (cmpZ a b < 0 ↔ a < b) ∧ (cmpZ a b > 0 ↔ b < a) := by
  unfold cmpZ
  constructor <;> split <;> (try split) <;> omega
def iV (e : Int) : Value := .int .u64 e
/-- the guess made less till it fits -/
theorem pa_inner (H : Two la lb o o' c' A L) {V : Nat} (hV : V < 65536 * vb 65536 L) {Q : List Int} {k : Nat} {v10 : Value} (k1 : KRun.lt 5 v10 = true) (s1 : ∀ b : Nat, rn (keepK 4 b) v10 = v10) {e0 : Nat} (he0 : e0 < 65536) (hge : V / vb 65536 L ≤ e0) (g : Nat → Value) (s : List Dec) :
    RunsW (tabH Try.prog extY conN hcP) (.block 2 (.loop (yL Try.f25))) (pFr o A.length c o' L.length c' A.length (sl 3 0 (d16 V).length (d16 V).length) ((k : Nat) : Int) v10 (iV (e0 : Nat)) ++ [sl 4 0 (d16 (vb 65536 L * e0)).length (d16 (vb 65536 L * e0)).length] ++ tl 82 g, hB5 (wU (d16 (vb 65536 L * e0))) (wU (d16 V)) (wU Q) lb la, s) fun e z => match e with
      | none => (∃ g, z.1 = pFr o A.length c o' L.length c' A.length (sl 3 0 (d16 V).length (d16 V).length) ((k : Nat) : Int) v10 (iV (V / vb 65536 L : Nat)) ++ [sl 4 0 (d16 (vb 65536 L * (V / vb 65536 L))).length (d16 (vb 65536 L * (V / vb 65536 L))).length] ++ tl 82 g) ∧ z.2.1 = hB5 (wU (d16 (vb 65536 L * (V / vb 65536 L)))) (wU (d16 V)) (wU Q) lb la
      | some none => False
      | some (some _) => False := by
  obtain ⟨b0, b1, b2⟩ := H.bnd
  have n2 := H.n2
  generalize hB : vb 65536 L = B at *
  have hP : ∀ e : Nat, e < 65536 → (d16 (B * e)).length ≤ L.length + 1 := fun e he => len_le16 (by
    rw [Nat.pow_succ]
    exact Nat.mul_lt_mul_of_lt_of_le b1 (by omega) (by omega))
  have hlV : (d16 V).length ≤ L.length + 1 := len_le16 (by
    rw [Nat.pow_succ, Nat.mul_comm]
    exact Nat.lt_trans hV (Nat.mul_lt_mul_of_pos_left b1 (by omega)))
  refine RunsW.forLoop (P := fun z => (∃ g, z.1 = pFr o A.length c o' L.length c' A.length (sl 3 0 (d16 V).length (d16 V).length) ((k : Nat) : Int) v10 (iV (V / B : Nat)) ++ [sl 4 0 (d16 (B * (V / B))).length (d16 (B * (V / B))).length] ++ tl 82 g) ∧ z.2.1 = hB5 (wU (d16 (B * (V / B)))) (wU (d16 V)) (wU Q) lb la) (R := fun _ => False)
    (fun m z => m < 65536 ∧ V / B ≤ m ∧ (∃ g, z.1 = pFr o A.length c o' L.length c' A.length (sl 3 0 (d16 V).length (d16 V).length) ((k : Nat) : Int) v10 (iV (m : Nat)) ++ [sl 4 0 (d16 (B * m)).length (d16 (B * m)).length] ++ tl 82 g) ∧ z.2.1 = hB5 (wU (d16 (B * m))) (wU (d16 V)) (wU Q) lb la) ?_ (n := e0) ⟨he0, hge, ⟨g, rfl⟩, rfl⟩
  rintro m ⟨t, h', s⟩ ⟨hm, hle, ⟨g, ht⟩, hh⟩
  simp only at ht hh
  subst ht hh
  have p4 : (hB5 (wU (d16 (B * m))) (wU (d16 V)) (wU Q) lb la).blk? 4 = some (wU (d16 (B * m)), tU) := rfl
  have p3 : (hB5 (wU (d16 (B * m))) (wU (d16 V)) (wU Q) lb la).blk? 3 = some (wU (d16 V), tU) := rfl
  have p1 : (hB5 (wU (d16 (B * m))) (wU (d16 V)) (wU Q) lb la).blk? 1 = some (lb, tR) := rfl
  have hPm := hP m hm
  have q4 := rowP_P p4 (by omega)
  have q3 := rowP_P p3 (by omega)
  obtain ⟨q1, w1, u1⟩ := H.row p1
  rw [hB] at u1
  have hy : ∀ d : Bool, decide (V < B * m) = d → okLog [(decide (cmpZ (vO (hB5 (wU (d16 (B * m))) (wU (d16 V)) (wU Q) lb la) (aP 4 0) (d16 (B * m)).length) (vO (hB5 (wU (d16 (B * m))) (wU (d16 V)) (wU Q) lb la) (aP 3 0) (d16 V).length) > 0), d), (two16 (hB5 (wU (d16 (B * m))) (wU (d16 V)) (wU Q) lb la) (aP 4 0) (aP 3 0) (d16 (B * m)).length (d16 (B * m)).length (d16 V).length (d16 V).length, true)] := fun d hd => by
    refine okCons ?_ (okL1 (two16_mk q4 q3 (by rw [rowOf_P p4]; exact d16_dg _) (by rw [rowOf_P p3]; exact d16_dg _) (by omega)))
    rw [vO_P p4, vO_P p3, ← hd]
    exact decide_eq_decide.2 (cmpZ_lt (B * m) V).2
  rw [pa_y]
  by_cases hlt : V < B * m
  · have hmd : V / B < m := by
      rw [Nat.div_lt_iff_lt_mul b2, Nat.mul_comm]
      exact hlt
    have hm1 : 1 ≤ m := Nat.lt_of_le_of_lt (Nat.zero_le _) hmd
    have hpos : 0 < (d16 (B * m)).length := by
      rcases Nat.eq_zero_or_pos (d16 (B * m)).length with h1 | h1
      · have := (db_nil (b := 65536) (by omega)).1 (List.eq_nil_of_length_eq_zero h1)
        omega
      · exact h1
    have eB : B * m - B = B * (m - 1) := by rw [Nat.mul_sub, Nat.mul_one]
    have hBm : B ≤ B * m := Nat.le_mul_of_pos_right B (by omega)
    refine RunsW.next (front := pFr o A.length c o' L.length c' A.length (sl 3 0 (d16 V).length (d16 V).length) ((k : Nat) : Int) v10 (iV (m : Nat)) ++ [sl 4 0 (d16 (B * m)).length (d16 (B * m)).length]) (goesT_runsW T0_ok (pa_yt o A.length c o' L.length c' A.length (d16 V).length (d16 (B * m)).length v10 ((k : Nat) : Int) ((m : Nat) : Int) (wU (d16 (B * m))) (wU (d16 V)) (wU Q) lb la g) (hy true (decide_eq_true hlt))) fun g s => ?_
    have rb := goesT_runsW (s0 := s) T0_ok (pa_yb o A.length c o' L.length c' A.length (d16 V).length (d16 (B * m)).length v10 ((k : Nat) : Int) ((m : Nat) : Int) (wU (d16 (B * m))) (wU (d16 V)) (wU Q) lb la g) (okCons (by
      rw [two16_mk q4 q1 (by rw [rowOf_P p4]; exact d16_dg _) (by rw [w1]; exact H.cL.1) (by omega), vO_P p4, u1, Nat.ble_eq_true_of_le hBm]; rfl) (okL1 (decide_eq_true hpos)))
    have e64 : IntKind.u64.wrap (((m : Nat) : Int) - 1) = ((m - 1 : Nat) : Int) := by rw [w64 (by omega) (by omega)]; omega
    rw [vO_P p4, u1, eB, e64] at rb
    have rk := rb.kept (k := 4) (b := 5) (base := [(wU (d16 V), tU), (wU Q, tU), (lb, tR), (la, tR)]) (y := (wU (d16 (B * (m - 1))), tU)) (front' := pFr o A.length c o' L.length c' A.length (sl 3 0 (d16 V).length (d16 V).length) ((k : Nat) : Int) v10 (iV ((m - 1 : Nat) : Int)) ++ [sl 4 0 (d16 (B * (m - 1))).length (d16 (B * (m - 1))).length]) rfl (by
        simp only [pFr, List.map_append, List.map_cons, List.map_nil, s1]
        kernel_rfl) (by
        intro i x hx
        have hi : i < 4 := Hp.blk_lt hx
        have h3 : i = 0 ∨ i = 1 ∨ i = 2 ∨ i = 3 := by omega
        rcases h3 with rfl | rfl | rfl | rfl
        · have : (la, tR) = x := Option.some.inj hx
          subst this; exact ⟨rfl, H.sa⟩
        · have : (lb, tR) = x := Option.some.inj hx
          subst this; exact ⟨rfl, H.sb⟩
        · have : (wU Q, tU) = x := Option.some.inj hx
          subst this; exact ⟨rfl, wU_still _⟩
        · have : (wU (d16 V), tU) = x := Option.some.inj hx
          subst this; exact ⟨rfl, wU_still _⟩) rfl (by omega) (wU_still _) (by
        intro v hv
        simp only [pFr, List.mem_append, List.mem_cons, List.not_mem_nil, or_false] at hv
        rcases hv with (rfl | rfl | rfl | rfl | rfl | rfl | rfl | rfl | rfl | rfl | rfl | rfl) | rfl
        · rfl
        · rfl
        · rfl
        · rfl
        · rfl
        · rfl
        · rfl
        · rfl
        · rfl
        · rfl
        · exact k1
        · rfl
        · rfl)
    refine RunsW.block (P1 := fun e z => e = none ∧ (∃ g, z.1 = pFr o A.length c o' L.length c' A.length (sl 3 0 (d16 V).length (d16 V).length) ((k : Nat) : Int) v10 (iV ((m - 1 : Nat) : Int)) ++ [sl 4 0 (d16 (B * (m - 1))).length (d16 (B * (m - 1))).length] ++ tl 82 g) ∧ z.2.1 = hB5 (wU (d16 (B * (m - 1)))) (wU (d16 V)) (wU Q) lb la) rk (fun y hy => ?_) (fun y hy => by cases hy.1) (fun y hy => by cases hy.1) (fun id y _ hy => by cases hy.1)
    exact ⟨m - 1, by omega, by omega, Nat.le_sub_one_of_lt hmd, hy.2.1, hy.2.2⟩
  · have hmd : m = V / B := by
      have h1 : m ≤ V / B := by rw [Nat.le_div_iff_mul_le b2, Nat.mul_comm]; omega
      omega
    subst hmd
    refine RunsW.seq (goesT_runsW T0_ok (pa_yf o A.length c o' L.length c' A.length (d16 V).length (d16 (B * (V / B))).length v10 ((k : Nat) : Int) ((V / B : Nat) : Int) (wU (d16 (B * (V / B)))) (wU (d16 V)) (wU Q) lb la g) (hy false (decide_eq_false hlt))) (fun y hy => by cases hy.1) (fun e y hy => ?_)
    obtain ⟨e1, z1, z2⟩ := hy
    cases e1
    exact ⟨rfl, z1, z2⟩
/-- what a round leaves -/
def rOut (o c o' c' : Nat) (la lb : List Value) (A L : List Int) (V : Nat) (Q : List Int) (i : Int) (z : Lf) : Prop :=
  ∃ v10 v11 : Value, (KRun.lt 4 v10 = true ∧ KRun.lt 4 v11 = true ∧ (∀ k b : Nat, rn (keepK k b) v10 = v10) ∧ (∀ k b : Nat, rn (keepK k b) v11 = v11)) ∧ (∃ g, z.1 = pFr o A.length c o' L.length c' A.length (sl 3 0 (d16 V).length (d16 V).length) i v10 v11 ++ tl 83 g) ∧ z.2.1 = hB4 (wU (d16 V)) (wU Q) lb la
theorem pa_round (H : Two la lb o o' c' A L) {V : Nat} (hV : V < vb 65536 L) {Q : List Int} (hQ : Q.length = A.length) {k : Nat} (hk : k < A.length) {v10 v11 : Value} (hv : KRun.lt 4 v10 = true ∧ KRun.lt 4 v11 = true ∧ (∀ k b : Nat, rn (keepK k b) v10 = v10) ∧ (∀ k b : Nat, rn (keepK k b) v11 = v11)) {r : Value} {h : Hp} (hr : rIn V Q la lb r h) (g : Nat → Value) (s : List Dec) :
    RunsW (tabH Try.prog extY conN hcP) (paL Try.f25) (pFr o A.length c o' L.length c' A.length r ((k : Nat) : Int) v10 v11 ++ tl 83 g, h, s) fun e z => e = none ∧ ∃ V' Q', V' = (A.getD k 0).toNat + 65536 * V ∧ Q' = (if V' < vb 65536 L then Q else Q.set k ((V' / vb 65536 L : Nat) : Int)) ∧ rOut o c o' c' la lb A L (V' % vb 65536 L) Q' (((k : Nat) : Int) - 1) z := by
  obtain ⟨b0, b1, b2⟩ := H.bnd
  have n1 := H.n1
  have n2 := H.n2
  have a2 := H.a2
  obtain ⟨l1, l2, s1, s2⟩ := hv
  rw [pa_loop]
  refine RunsW.next (goesT_runsW T0_ok (pa_h1 o A.length c o' L.length c' A.length r v10 v11 ((k : Nat) : Int) h g) (okL1 (decide_eq_true (Int.natCast_nonneg k)))) fun g s => ?_
  have hd := at_dg H.dA k
  obtain ⟨W, hW⟩ : ∃ W, W = (A.getD k 0).toNat + 65536 * V := ⟨_, rfl⟩
  have hWB : W < 65536 * vb 65536 L := by
    have := hd.2
    have := hd.1
    have h3 : 65536 * V + 65536 ≤ 65536 * vb 65536 L := by
      have := Nat.mul_le_mul_left 65536 (Nat.succ_le_of_lt hV)
      rw [Nat.mul_succ] at this
      exact this
    omega
  obtain ⟨B, hB⟩ : ∃ B, B = vb 65536 L := ⟨_, rfl⟩
  have hlW : (d16 W).length ≤ L.length + 1 := len_le16 (by
    rw [Nat.pow_succ, Nat.mul_comm]
    exact Nat.lt_trans hWB (Nat.mul_lt_mul_of_pos_left b1 (by omega)))
  have e1 : IntKind.i64.wrap (((k : Nat) : Int) - 1) = ((k : Nat) : Int) - 1 := wrapI (by omega) (by omega)
  -- the inner block, then the index
  refine RunsW.seq (P1 := fun e z => e = none ∧ rOut o c o' c' la lb A L (W % vb 65536 L) (if W < vb 65536 L then Q else Q.set k ((W / vb 65536 L : Nat) : Int)) ((k : Nat) : Int) z) ?_ ?_ (fun e y hy => by cases hy.1)
  · refine RunsW.block (P1 := fun e z => (e = none ∨ e = some (some 1)) ∧ rOut o c o' c' la lb A L (W % vb 65536 L) (if W < vb 65536 L then Q else Q.set k ((W / vb 65536 L : Nat) : Int)) ((k : Nat) : Int) z) ?_ (fun y hy => ⟨rfl, hy.2⟩) (fun y hy => by rcases hy.1 with h | h <;> cases h) (fun y hy => ⟨rfl, hy.2⟩) (fun id y hid hy => by
      rcases hy.1 with h | h
      · cases h
      · cases h; exact absurd rfl hid)
    rw [pa_x]
    have h7 := pa_seven (c := c) H hV (Q := Q) hk l1 l2 (s1 3) (s2 3) hr g s
    rw [← hW] at h7
    refine RunsW.next h7 fun g s => ?_
    have p3 : (hB4 (wU (d16 W)) (wU Q) lb la).blk? 3 = some (wU (d16 W), tU) := rfl
    have p1 : (hB4 (wU (d16 W)) (wU Q) lb la).blk? 1 = some (lb, tR) := rfl
    have q3 := rowP_P p3 (by omega)
    obtain ⟨q1, w1, u1⟩ := H.row p1
    have h8 : ∀ d : Bool, decide (W < vb 65536 L) = d → okLog [(decide (cmpZ (vO (hB4 (wU (d16 W)) (wU Q) lb la) (aP 3 0) (d16 W).length) (vO (hB4 (wU (d16 W)) (wU Q) lb la) (aP 1 o') L.length) < 0), d), (two16 (hB4 (wU (d16 W)) (wU Q) lb la) (aP 3 0) (aP 1 o') (d16 W).length (d16 W).length L.length c', true)] := fun d hd => by
      refine okCons ?_ (okL1 (two16_mk q3 q1 (by rw [rowOf_P p3]; exact d16_dg _) (by rw [w1]; exact H.cL.1) (by omega)))
      rw [vO_P p3, u1, ← hd]
      exact decide_eq_decide.2 (cmpZ_lt W (vb 65536 L)).1
    by_cases hlt : W < vb 65536 L
    · refine RunsW.seq (goesT_runsW T0_ok (pa_8t o A.length c o' L.length c' A.length (d16 W).length v10 v11 ((k : Nat) : Int) (wU (d16 W)) (wU Q) lb la g) (h8 true (decide_eq_true hlt))) (fun y hy => by cases hy.1) (fun e y hy => ?_)
      obtain ⟨e2, z1, z2⟩ := hy
      cases e2
      rw [if_pos hlt, Nat.mod_eq_of_lt hlt]
      exact ⟨.inr rfl, v10, v11, ⟨l1, l2, s1, s2⟩, z1, z2⟩
    · rw [if_neg hlt]
      refine RunsW.next (goesT_runsW T0_ok (pa_8f o A.length c o' L.length c' A.length (d16 W).length v10 v11 ((k : Nat) : Int) (wU (d16 W)) (wU Q) lb la g) (h8 false (decide_eq_false hlt))) fun g s => ?_
      have g9 := pa_9 o A.length c o' L.length c' A.length (d16 W).length v10 v11 ((k : Nat) : Int) (wU (d16 W)) (wU Q) lb la g
      rw [rowOf_P p3, tR3_eq W L.length n1 n2] at g9
      refine RunsW.next (goesT_runsW T0_ok g9 (okCons q3 (okCons rfl (okCons q3 (okCons rfl (okL1 q3)))))) fun g s => ?_
      obtain ⟨t1, t2, t3, t4, t5⟩ := top_ok n1 b0 b1 hWB
      have etb := tB2_eq H.cL n1 n2
      generalize topP W L.length = tp at *
      generalize topB (vb 65536 L) L.length = tb at *
      obtain ⟨tq, htq⟩ : ∃ tq, tq = tp / tb := ⟨_, rfl⟩
      have htq' : tq ≤ tp := by rw [htq]; exact Nat.div_le_self _ _
      rw [← htq] at t4
      have eix : IntKind.i64.wrap ((L.length : Int) - 1) = ((L.length - 1 : Nat) : Int) := by rw [wrapI (by omega) (by omega)]; omega
      have g10 := pa_10 o A.length c o' L.length c' A.length (d16 W).length v11 ((k : Nat) : Int) ((tp : Nat) : Int) (L.getD (L.length - 1) 0) ((tq : Nat) : Int) (wU (d16 W)) (wU Q) lb la g
      have eq : IntKind.u64.wrap (((tp : Nat) : Int).tdiv ((tb : Nat) : Int)) = ((tq : Nat) : Int) := by
        rw [← Int.ofNat_tdiv, ← htq, w64 (by omega) (by omega)]
      refine RunsW.next (goesT_runsW T0_ok g10 (by
        rw [w1, etb]
        refine okCons (decide_eq_false (by omega)) (okCons (decide_eq_true eq) (okCons q1 (okCons rfl (okCons ?_ (okL1 ?_)))))
        · rw [eix, Int.toNat_natCast, Nat.mul_one, H.rb.cell (by omega)]; simp [cellIs]
        · rw [eix]; exact decide_eq_true (by omega))) fun g s => ?_
      obtain ⟨e, he⟩ : ∃ e : Nat, e = min tq 65535 := ⟨_, rfl⟩
      have em : minG ((tq : Nat) : Int) = ((e : Nat) : Int) := by unfold minG; rw [he]; split <;> omega
      rw [em]
      have e16 : e < 65536 := by omega
      have hde : W / vb 65536 L ≤ e := by omega
      have w32 : IntKind.u32.wrap ((e : Nat) : Int) = ((e : Nat) : Int) := wrap32 (by omega) (by omega)
      have ep : pV (hB4 (wU (d16 W)) (wU Q) lb la) o' L.length ((e : Nat) : Int) = vb 65536 L * e := by
        unfold pV
        rw [u1, w32, Int.toNat_natCast]
        rfl
      have g11 := pa_11 o A.length c o' L.length c' A.length (d16 W).length (iV ((tp : Nat) : Int)) ((k : Nat) : Int) ((e : Nat) : Int) (wU (d16 W)) (wU Q) lb la g
      rw [ep] at g11
      refine RunsW.next (front := pFr o A.length c o' L.length c' A.length (sl 3 0 (d16 W).length (d16 W).length) ((k : Nat) : Int) (iV ((tp : Nat) : Int)) (iV ((e : Nat) : Int)) ++ [sl 4 0 (d16 (vb 65536 L * e)).length (d16 (vb 65536 L * e)).length]) (goesT_runsW T0_ok g11 (okCons (by
        unfold okSml
        rw [q1, w1, dgB_mk H.cL.1, blt_iff.2 (by omega), w32, decide_eq_true ⟨⟨by omega, by omega⟩, by omega, by omega⟩]
        rfl) (okL1 (decide_eq_true (.inl (by omega)))))) fun g s => ?_
      refine RunsW.seq (P1 := fun e z => e = none ∧ (∃ g, z.1 = pFr o A.length c o' L.length c' A.length (sl 3 0 (d16 W).length (d16 W).length) ((k : Nat) : Int) (iV ((tp : Nat) : Int)) (iV (W / vb 65536 L : Nat)) ++ [sl 4 0 (d16 (vb 65536 L * (W / vb 65536 L))).length (d16 (vb 65536 L * (W / vb 65536 L))).length] ++ tl 82 g) ∧ z.2.1 = hB5 (wU (d16 (vb 65536 L * (W / vb 65536 L)))) (wU (d16 W)) (wU Q) lb la) ((pa_inner (c := c) H hWB rfl (fun b => rfl) e16 hde g s).mono fun e z hz => ?_) ?_ (fun e y hy => by cases hy.1)
      · match e, hz with
        | none, hz => exact ⟨rfl, hz⟩
        | some none, hz => exact hz.elim
        | some (some _), hz => exact hz.elim
      · rintro ⟨t, h', s⟩ ⟨_, ⟨g, ht⟩, hh⟩
        simp only at ht hh
        subst ht hh
        have p4 : (hB5 (wU (d16 (vb 65536 L * (W / vb 65536 L)))) (wU (d16 W)) (wU Q) lb la).blk? 4 = some (wU (d16 (vb 65536 L * (W / vb 65536 L))), tU) := rfl
        have p3' : (hB5 (wU (d16 (vb 65536 L * (W / vb 65536 L)))) (wU (d16 W)) (wU Q) lb la).blk? 3 = some (wU (d16 W), tU) := rfl
        have hle : vb 65536 L * (W / vb 65536 L) ≤ W := Nat.mul_div_le W (vb 65536 L)
        have hl4 : (d16 (vb 65536 L * (W / vb 65536 L))).length ≤ L.length + 1 := len_le16 (by
          rw [Nat.pow_succ]
          exact Nat.mul_lt_mul_of_lt_of_le b1 (by omega) (by omega))
        have q4 := rowP_P p4 (by omega)
        have q3' := rowP_P p3' (by omega)
        have hpos : 0 < (d16 W).length := by
          rcases Nat.eq_zero_or_pos (d16 W).length with h1 | h1
          · have := (db_nil (b := 65536) (by omega)).1 (List.eq_nil_of_length_eq_zero h1)
            omega
          · exact h1
        have ge := pa_e o A.length c o' L.length c' A.length (d16 W).length (d16 (vb 65536 L * (W / vb 65536 L))).length (iV ((tp : Nat) : Int)) ((k : Nat) : Int) ((W / vb 65536 L : Nat) : Int) (wU (d16 (vb 65536 L * (W / vb 65536 L)))) (wU (d16 W)) (wU Q) lb la g
        have wd : IntKind.u32.wrap ((W / vb 65536 L : Nat) : Int) = ((W / vb 65536 L : Nat) : Int) := wrap32 (Int.natCast_nonneg _) (by omega)
        have em2 : W - vb 65536 L * (W / vb 65536 L) = W % vb 65536 L := by have := Nat.div_add_mod W (vb 65536 L); omega
        have eset : (wU Q).set (0 + ((k : Nat) : Int).toNat * 1) (.int .u32 ((W / vb 65536 L : Nat) : Int)) = wU (Q.set k ((W / vb 65536 L : Nat) : Int)) := by
          rw [Int.toNat_natCast, Nat.zero_add, Nat.mul_one]; unfold wU; rw [List.map_set]
        have re := goesT_runsW (s0 := s) T0_ok ge (okCons (decide_eq_true (by rw [Int.toNat_natCast, wU_len]; omega)) (okCons (decide_eq_true (by omega)) (okCons (by
          rw [two16_mk q3' q4 (by rw [rowOf_P p3']; exact d16_dg _) (by rw [rowOf_P p4]; exact d16_dg _) (by omega), vO_P p4, vO_P p3', Nat.ble_eq_true_of_le hle]; rfl) (okL1 (decide_eq_true hpos)))))
        rw [vO_P p4, vO_P p3', em2, wd, eset] at re
        have rk := re.kept (k := 3) (b := 5) (base := [(wU (Q.set k ((W / vb 65536 L : Nat) : Int)), tU), (lb, tR), (la, tR)]) (y := (wU (d16 (W % vb 65536 L)), tU)) (front' := pFr o A.length c o' L.length c' A.length (sl 3 0 (d16 (W % vb 65536 L)).length (d16 (W % vb 65536 L)).length) ((k : Nat) : Int) (iV ((tp : Nat) : Int)) (iV (W / vb 65536 L : Nat))) rfl (by
          simp only [pFr, List.map_cons, List.map_nil]
          kernel_rfl) (base3 (wU_still _) H.sb H.sa rfl rfl rfl) rfl (by omega) (wU_still _) (pFr_lt rfl rfl)
        refine rk.mono fun e z hz => ?_
        obtain ⟨e3, z1, z2⟩ := hz
        exact ⟨.inl e3, _, _, ⟨rfl, rfl, fun k b => rfl, fun k b => rfl⟩, z1, z2⟩
  · rintro ⟨t, h', s⟩ ⟨_, u10, u11, hu, ⟨g, ht⟩, hh⟩
    simp only at ht hh
    subst ht hh
    have gi := pa_i o A.length c o' L.length c' A.length (sl 3 0 (d16 (W % vb 65536 L)).length (d16 (W % vb 65536 L)).length) u10 u11 ((k : Nat) : Int) (hB4 (wU (d16 (W % vb 65536 L))) (wU (if W < vb 65536 L then Q else Q.set k ((W / vb 65536 L : Nat) : Int))) lb la) g
    rw [e1] at gi
    refine (goesT_runsW T0_ok gi (fun x hx => by cases hx)).mono fun e z hz => ?_
    obtain ⟨e2, z1, z2⟩ := hz
    exact ⟨e2, W, _, hW, rfl, u10, u11, hu, z1, z2⟩
end
end Go.Proofs.Ytbcpnpchioncbaa

/-
  PLAIN ARITHMETIC: a product of digits to the base 65536, row by row.
-/
namespace Go.Nt

theorem vb_set {b : Nat} : ∀ {L : List Int} {j : Nat}, j < L.length → ∀ v : Int, vb b (L.set j v) + b ^ j * (L.getD j 0).toNat = vb b L + b ^ j * v.toNat
  | [], _, h, _ => by simp at h
  | x :: L, 0, _, v => by simp [vb]; omega
  | x :: L, j + 1, h, v => by
    have ih := vb_set (b := b) (L := L) (j := j) (by simpa using h) v
    have e : (x :: L).getD (j + 1) 0 = L.getD j 0 := by simp [List.getD]
    simp only [List.set, vb, e]
    have h2 := congrArg (fun t => b * t) ih
    simp only [Nat.mul_add] at h2
    rw [Nat.pow_succ, Nat.mul_comm (b ^ j) b, Nat.mul_assoc, Nat.mul_assoc]
    omega
theorem set_dg {L : List Int} (h : ∀ x ∈ L, Dg 65536 x) {v : Int} (hv : Dg 65536 v) (j : Nat) : ∀ x ∈ L.set j v, Dg 65536 x := fun x hx => by
  rcases List.mem_or_eq_of_mem_set hx with hx | rfl
  · exact h x hx
  · exact hv
/-- one step: what is carried, a digit and a product -/
theorem mul_step {L : List Int} {j : Nat} (hj : j < L.length) (hL : ∀ x ∈ L, Dg 65536 x) {c p q : Nat} (hc : c < 65536) (hp : p < 65536) (hq : q < 65536) :
    let t := c + (L.getD j 0).toNat + p * q
    vb 65536 (L.set j ((t % 65536 : Nat) : Int)) + t / 65536 * 65536 ^ (j + 1) = vb 65536 L + c * 65536 ^ j + p * q * 65536 ^ j ∧ t / 65536 < 65536 ∧ (∀ x ∈ L.set j ((t % 65536 : Nat) : Int), Dg 65536 x) := by
  intro t
  have hd : (L.getD j 0).toNat < 65536 := dg_lt hL j
  have hpq : p * q ≤ 65535 * 65535 := Nat.mul_le_mul (by omega) (by omega)
  have ht : t = c + (L.getD j 0).toNat + p * q := rfl
  refine ⟨?_, by omega, set_dg hL ⟨by omega, by omega⟩ j⟩
  have h1 := vb_set (b := 65536) hj ((t % 65536 : Nat) : Int)
  rw [Int.toNat_natCast] at h1
  have h2 := Nat.div_add_mod t 65536
  have h3 : 65536 ^ j * t = 65536 ^ j * (65536 * (t / 65536)) + 65536 ^ j * (t % 65536) := by rw [← Nat.mul_add, h2]
  have h4 : 65536 ^ j * t = 65536 ^ j * c + 65536 ^ j * (L.getD j 0).toNat + 65536 ^ j * (p * q) := by rw [ht, Nat.mul_add, Nat.mul_add]
  have h5 : t / 65536 * 65536 ^ (j + 1) = 65536 ^ j * (65536 * (t / 65536)) := by rw [Nat.pow_succ, Nat.mul_comm, Nat.mul_assoc]
  rw [h5, Nat.mul_comm c, Nat.mul_comm (p * q)]
  omega
end Go.Nt
