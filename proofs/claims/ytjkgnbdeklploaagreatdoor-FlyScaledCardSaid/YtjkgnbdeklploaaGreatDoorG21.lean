/-
  RfE, RfF, RfG, RfR
-/
import Derived.Test.YtjkgnbdeklploaaGreatDoorG20
namespace Go.Proofs.YtjkgnbdeklploaaGreatDoor
open Go.KRun Go.Nt Go.Wd Go.Rn
set_option maxRecDepth 100000
set_option linter.unusedVariables false
section
variable {l : List Value} {o c : Nat} {A : List Int}
theorem vO_fst (hF : Fst l o c A) {h : Hp} (hh : h.blk? 0 = some (l, tR)) : vO h (aX o) A.length = vb 65536 A := by
  unfold vO aX
  rw [(hF h hh).2]
theorem okLen_fst (hF : Fst l o c A) (hC : Canon 65536 A) (hn : A.length < 1073741824) {h : Hp} (hh : h.blk? 0 = some (l, tR)) : okLen h (aX o) A.length c = true := by
  unfold okLen aX
  rw [(hF h hh).1, (hF h hh).2, canB_mk hC, blt_iff.2 hn]
  rfl
theorem okShl_d16 {h : Hp} {b A : Nat} {k : Int} (hb : h.blk? b = some (wU (d16 A), tU)) (hk : 0 ≤ k) (hl : k.toNat / 16 + (d16 A).length + 3 < 1073741824) : okShl h (some ⟨b, 0, none⟩) (d16 A).length (d16 A).length k = true := by
  unfold okShl
  rw [rowP_d16 hb (by omega), dgB_d16 hb, blt_iff.2 hl, decide_eq_true hk]
  rfl
theorem two_fst (hF : Fst l o c A) (hC : Canon 65536 A) (hn : A.length < 1073741800) {h : Hp} (hh : h.blk? 0 = some (l, tR)) {b V : Nat} (hb : h.blk? b = some (wU (d16 V), tU)) (hl : (d16 V).length < 1073741800) : two16 h (aX o) (some ⟨b, 0, none⟩) A.length c (d16 V).length (d16 V).length = true := by
  unfold two16 aX
  rw [(hF h hh).1, (hF h hh).2, dgB_mk hC.1, rowP_d16 hb (by omega), dgB_d16 hb, blt_iff.2 (by omega)]
  rfl
theorem two_fst0 (hF : Fst l o c A) (hC : Canon 65536 A) (hn : A.length < 1073741800) {h : Hp} (hh : h.blk? 0 = some (l, tR)) : two16 h (aX o) none A.length c 0 0 = true := by
  unfold two16 aX
  rw [(hF h hh).1, (hF h hh).2, dgB_mk hC.1, blt_iff.2 (by omega)]
  rfl
/-- the front of To, as far as its second piece -/
def fT (neg : Bool) (E N M : Int) (o n c : Nat) (b : Int) (Q : Value) : List Value := [vRN neg E (sl 0 o n c), .int .i64 N, .int .i64 M, .pointer (some ⟨1, 0, none⟩), undef, undef, nilS, .bool false, .int .i64 b, Q]
def hS (s : Bool) (neg : Bool) (E : Int) (o n c : Nat) (l : List Value) (q : Nat) : Hp := match s with | true => hQ neg E o n c l q | false => hX neg E o n c l
def qS (s : Bool) (q : Nat) : Value := match s with | true => sOf 2 q | false => nilS
/-- To's last piece: one more, or not -/
theorem to_last (s : Bool) {neg : Bool} {E N M : Int} {q : Nat} {half just u : Bool} {b : Int} {J : Value} (hq : (d16 q).length < 1073741800) (hq0 : s = false → q = 0) (g : Nat → Value) :
    RunsW (tabH Tryz.prog extY conN hcW) (tS5 Tryz.f80) (fT neg E N M o A.length c b (qS s q) ++ [.bool true, .bool half, J, .bool just, .bool u] ++ tl 91 g, hS s neg E o A.length c l q, []) fun ex z => (ex = none ∨ ex = some none) ∧
      ((s = true ∨ u = true) → ∃ k, resS Tryz.prog Tryz.f80 z.1 z.2.1 = some (.tuple #[sOf k (q + (if u = true then 1 else 0)), .bool true]) ∧ ∃ r, z.2.1.blk? k = some (wU (d16 (q + (if u = true then 1 else 0))) ++ r, tU)) ∧
      ((s = false ∧ u = false) → resS Tryz.prog Tryz.f80 z.1 z.2.1 = some (.tuple #[nilS, .bool true])) := by
  cases s with
  | true =>
    cases u with
    | true =>
      have e1 : vO (nxt (hQ neg E o A.length c l q) 1) (some ⟨2, 0, none⟩) (d16 q).length + vO (nxt (hQ neg E o A.length c l q) 1) (some ⟨3, 0, none⟩) (d16 1).length = q + 1 := by
        rw [vO_d16 (A := q) (ty := tU) rfl, vO_d16 (A := 1) (ty := tU) rfl]
      refine (goesT_runsW (tabH_ok conN_ok hcW_ok) (to_grT neg half just E N M b o A.length c q l J g) (okTwo (two_d16 (A := q) (A' := 1) rfl rfl hq (by rw [d16_one]; omega)) (okTwo (decide_eq_true (.inr (by rw [d16_one]; omega))) (okOne (by decide))))).mono fun ex z hz => ?_
      rw [e1] at hz
      obtain ⟨rfl, ⟨g', z1⟩, z2⟩ := hz
      refine ⟨.inr rfl, fun _ => ⟨4, ?_, [], ?_⟩, fun h => by cases h.1⟩
      · rw [z1, z2]; rfl
      · rw [z2, List.append_nil]; rfl
    | false =>
      refine (goesT_runsW (tabH_ok conN_ok hcW_ok) (to_grF neg half just E N M b o A.length c q l J g) (fun x hx => by cases hx)).mono fun ex z hz => ?_
      obtain ⟨rfl, ⟨g', z1⟩, z2⟩ := hz
      refine ⟨.inr rfl, fun _ => ⟨2, ?_, [], ?_⟩, fun h => by cases h.1⟩
      · rw [z1, z2]; rfl
      · rw [z2, List.append_nil]; rfl
  | false =>
    have hq1 := hq0 rfl
    subst hq1
    cases u with
    | true =>
      have e1 : vO (nxt (hX neg E o A.length c l) 1) none 0 + vO (nxt (hX neg E o A.length c l) 1) (some ⟨2, 0, none⟩) (d16 1).length = 0 + 1 := by
        rw [vO_nil, vO_d16 (A := 1) (ty := tU) rfl]
      refine (goesT_runsW (tabH_ok conN_ok hcW_ok) (to_gnT neg half just E N M b o A.length c 0 l J g) (okTwo (two_nil (A := 1) rfl (by rw [d16_one]; omega)) (okTwo (decide_eq_true (.inr (by rw [d16_one]; omega))) (okOne (by decide))))).mono fun ex z hz => ?_
      rw [e1] at hz
      obtain ⟨rfl, ⟨g', z1⟩, z2⟩ := hz
      refine ⟨.inr rfl, fun _ => ⟨3, ?_, [], ?_⟩, fun h => by cases h.2⟩
      · rw [z1, z2]; rfl
      · rw [z2, List.append_nil]; rfl
    | false =>
      refine (goesT_runsW (tabH_ok conN_ok hcW_ok) (to_gnF neg half just E N M b o A.length c 0 l J g) (fun x hx => by cases hx)).mono fun ex z hz => ?_
      obtain ⟨rfl, ⟨g', z1⟩, z2⟩ := hz
      refine ⟨.inr rfl, (fun h => by rcases h with h | h <;> cases h), fun _ => ?_⟩
      rw [z1, z2]; rfl
/-- by the mode -/
def upM (M : Int) (neg half ev : Bool) : Bool := if M = 2 then false else if M = 3 then !neg else if M = 4 then neg else if M = 1 then half else ev
theorem to_mode (s : Bool) {neg : Bool} {E N M : Int} {n q : Nat} {half just u : Bool} {b : Int} {J : Value} (g : Nat → Value) :
    RunsW (tabH Tryz.prog extY conN hcW) (tS4 Tryz.f80) (fT neg E N M o n c b (qS s q) ++ [.bool true, .bool half, J, .bool just, .bool u] ++ tl 91 g, hS s neg E o n c l q, []) fun ex z => ex = none ∧ (∃ g, z.1 = fT neg E N M o n c b (qS s q) ++ [.bool true, .bool half, J, .bool just, .bool (upM M neg half u)] ++ tl 91 g) ∧ z.2.1 = hS s neg E o n c l q := by
  unfold upM
  by_cases h1 : M = 1
  · have n2 : ¬ M = 2 := by omega
    have n3 : ¬ M = 3 := by omega
    have n4 : ¬ M = 4 := by omega
    rw [if_neg n2, if_neg n3, if_neg n4, if_pos h1]
    cases s with
    | true => exact goesT_runsW (tabH_ok conN_ok hcW_ok) (to_mr1 neg half just u E N M b o n c q l J g) (okOne (by rw [h1]; rfl))
    | false => exact goesT_runsW (tabH_ok conN_ok hcW_ok) (to_mn1 neg half just u E N M b o n c q l J g) (okOne (by rw [h1]; rfl))
  · have b1 : (M == 1) = false := by simp [h1]
    by_cases h2 : M = 2
    · rw [if_pos h2]
      cases s with
      | true => exact goesT_runsW (tabH_ok conN_ok hcW_ok) (to_mr2 neg half just u E N M b o n c q l J g) (okTwo (by rw [h2]; rfl) (okOne b1))
      | false => exact goesT_runsW (tabH_ok conN_ok hcW_ok) (to_mn2 neg half just u E N M b o n c q l J g) (okTwo (by rw [h2]; rfl) (okOne b1))
    · have b2 : (M == 2) = false := by simp [h2]
      rw [if_neg h2]
      by_cases h3 : M = 3
      · rw [if_pos h3]
        cases s with
        | true => exact goesT_runsW (tabH_ok conN_ok hcW_ok) (to_mr3 neg half just u E N M b o n c q l J g) (okTwo (by rw [h3]; rfl) (okTwo b2 (okOne b1)))
        | false => exact goesT_runsW (tabH_ok conN_ok hcW_ok) (to_mn3 neg half just u E N M b o n c q l J g) (okTwo (by rw [h3]; rfl) (okTwo b2 (okOne b1)))
      · have b3 : (M == 3) = false := by simp [h3]
        rw [if_neg h3]
        by_cases h4 : M = 4
        · rw [if_pos h4]
          cases s with
          | true => exact goesT_runsW (tabH_ok conN_ok hcW_ok) (to_mr4 neg half just u E N M b o n c q l J g) (okTwo (by rw [h4]; rfl) (okTwo b3 (okTwo b2 (okOne b1))))
          | false => exact goesT_runsW (tabH_ok conN_ok hcW_ok) (to_mn4 neg half just u E N M b o n c q l J g) (okTwo (by rw [h4]; rfl) (okTwo b3 (okTwo b2 (okOne b1))))
        · have b4 : (M == 4) = false := by simp [h4]
          rw [if_neg h4, if_neg h1]
          cases s with
          | true => exact goesT_runsW (tabH_ok conN_ok hcW_ok) (to_mr0 neg half just u E N M b o n c q l J g) (okTwo b4 (okTwo b3 (okTwo b2 (okOne b1))))
          | false => exact goesT_runsW (tabH_ok conN_ok hcW_ok) (to_mn0 neg half just u E N M b o n c q l J g) (okTwo b4 (okTwo b3 (okTwo b2 (okOne b1))))
/-- whether the even one is above: the third piece -/
theorem to_even (s : Bool) {neg : Bool} {E N M : Int} {n q : Nat} {half just : Bool} {b : Int} {J : Value} (hq0 : s = false → q = 0) (hj : half = false → just = false) (g : Nat → Value) :
    RunsW (tabH Tryz.prog extY conN hcW) (tS3 Tryz.f80) (fT neg E N M o n c b (qS s q) ++ [.bool true, .bool half, J, .bool just] ++ tl 92 g, hS s neg E o n c l q, []) fun ex z => ex = none ∧ (∃ g, z.1 = fT neg E N M o n c b (qS s q) ++ [.bool true, .bool half, J, .bool just, .bool (half && (!just || odd q))] ++ tl 91 g) ∧ z.2.1 = hS s neg E o n c l q := by
  cases half with
  | false =>
    have := hj rfl
    subst this
    cases s with
    | true => exact goesT_runsW (tabH_ok conN_ok hcW_ok) (to_urF neg false E N M b 0 o n c q l J g) (fun x hx => by cases hx)
    | false => exact goesT_runsW (tabH_ok conN_ok hcW_ok) (to_unF neg false E N M b 0 o n c q l J g) (fun x hx => by cases hx)
  | true =>
    cases just with
    | false =>
      cases s with
      | true => exact goesT_runsW (tabH_ok conN_ok hcW_ok) (to_urTF neg false E N M b 0 o n c q l J g) (fun x hx => by cases hx)
      | false => exact goesT_runsW (tabH_ok conN_ok hcW_ok) (to_unTF neg false E N M b 0 o n c q l J g) (fun x hx => by cases hx)
    | true =>
      simp only [Bool.true_and, Bool.not_true, Bool.false_or]
      cases s with
      | true =>
        by_cases hl : 0 < (d16 q).length
        · have hne := d16_pos hl
          have hd : d16 q = ((q % 65536 : Nat) : Int) :: db 65536 (q / 65536) := db_pos (by omega) hne
          have ho : (((q % 65536 : Nat) : Int).tmod 2 == 1) = odd q := by
            unfold odd
            rw [Int.tmod_eq_emod_of_nonneg (by omega), Bool.eq_iff_iff]
            simp only [beq_iff_eq, decide_eq_true_eq]
            omega
          have hcell : cellIs ((wU (d16 q))[0]?) (.int .u32 ((q % 65536 : Nat) : Int)) = true := by
            rw [hd]
            simp [wU, cellIs]
          exact goesT_runsW (tabH_ok conN_ok hcW_ok) (to_urTT neg (odd q) E N M b ((q % 65536 : Nat) : Int) o n c q l J g) (okTwo ho (okTwo rfl (okTwo hcell (okTwo (decide_eq_true ⟨by omega, by omega⟩) (okOne (decide_eq_true (by omega)))))))
        · have h0 := d16_zero hl
          have ho : odd q = false := by rw [h0]; rfl
          rw [ho]
          exact goesT_runsW (tabH_ok conN_ok hcW_ok) (to_urTT0 neg false E N M b 0 o n c q l J g) (okOne (decide_eq_false (by omega)))
      | false =>
        have ho : odd q = false := by rw [hq0 rfl]; rfl
        rw [ho]
        exact goesT_runsW (tabH_ok conN_ok hcW_ok) (to_unTT0 neg false E N M b 0 o n c q l J g) (okOne rfl)
end
section
variable {l : List Value} {o c : Nat} {A : List Int}
def baseS (s : Bool) (neg : Bool) (E : Int) (o n c : Nat) (l : List Value) (q : Nat) : List (List Value × TypeId) := match s with | true => [(wU (d16 q), tU), bX neg E o n c, (l, tR)] | false => [bX neg E o n c, (l, tR)]
def kS (s : Bool) : Nat := match s with | true => 3 | false => 2
theorem hS_base (s neg : Bool) (E : Int) (n q : Nat) : hS s neg E o n c l q = ⟨kS s, baseS s neg E o n c l q⟩ := by cases s <;> rfl
theorem base_lt (s neg : Bool) (E : Int) (n q : Nat) (hl : ∀ v ∈ l, still v = true) : ∀ x ∈ baseS s neg E o n c l q, ∀ v ∈ x.1, lt1 (kS s) v = true := by
  have hb : ∀ k, 0 < k → ∀ v ∈ (bX neg E o n c).1, lt1 k v = true := fun k hk v hv => by
    simp only [bX, bOf, List.mem_cons, List.not_mem_nil, or_false] at hv
    rcases hv with rfl | rfl | rfl
    · rfl
    · rfl
    · exact blt_iff.2 hk
  intro x hx v hv
  cases s with
  | true =>
    simp only [baseS, List.mem_cons, List.not_mem_nil, or_false] at hx
    rcases hx with rfl | rfl | rfl
    · exact lt1_mono (Nat.zero_le _) (wU_lt _ v hv)
    · exact hb 3 (by omega) v hv
    · exact still_lt (by decide) (hl v hv)
  | false =>
    simp only [baseS, List.mem_cons, List.not_mem_nil, or_false] at hx
    rcases hx with rfl | rfl
    · exact hb 2 (by omega) v hv
    · exact still_lt (by decide) (hl v hv)
theorem fT_lt (s : Bool) {neg : Bool} {E N M : Int} {n q : Nat} {b : Int} {half : Bool} : ∀ v ∈ fT neg E N M o n c b (qS s q) ++ [.bool true, .bool half], lt (kS s) v = true := by
  intro v hv
  simp only [fT, List.mem_append, List.mem_cons, List.not_mem_nil, or_false] at hv
  rcases hv with (rfl | rfl | rfl | rfl | rfl | rfl | rfl | rfl | rfl | rfl) | rfl | rfl <;> cases s <;> rfl
/-- behind the second piece the memory is as before -/
theorem to_cut (s : Bool) {neg : Bool} {E N M : Int} {n q : Nat} {b : Int} {half just : Bool} {X : Code} {P : Ex → Lf → Prop} (hl : ∀ v ∈ l, still v = true)
    (h : ∀ J g, RunsW (tabH Tryz.prog extY conN hcW) X (fT neg E N M o n c b (qS s q) ++ [.bool true, .bool half, J, .bool just] ++ tl 92 g, hS s neg E o n c l q, []) P)
    (u : Value) (g : Nat → Value) (sc : List Dec) {hp : Hp} {extra : List (List Value × TypeId)} (he : hp = ⟨extra.length + kS s, extra ++ baseS s neg E o n c l q⟩) :
    RunsW (tabH Tryz.prog extY conN hcW) X (fT neg E N M o n c b (qS s q) ++ [.bool true, .bool half, u, .bool just] ++ tl 92 g, hp, sc) P := by
  have e1 : ∀ v : Value, fT neg E N M o n c b (qS s q) ++ [.bool true, .bool half, v, .bool just] = (fT neg E N M o n c b (qS s q) ++ [.bool true, .bool half]) ++ v :: [.bool just] := fun v => by simp
  rw [he, e1]
  refine RunsW.pre (k := kS s) (s' := []) (fun j g => ?_) (by cases s <;> rfl) rfl (by cases s <;> decide) (base_lt s neg E n q hl) (fT_lt s) (fun v hv => by rw [List.mem_singleton.1 hv]; rfl)
  rw [← e1, ← hS_base]
  exact h j g
theorem cmpZ_eq {x y : Nat} : (cmpZ x y == 0) = decide (x = y) := by
  unfold cmpZ
  by_cases h1 : x < y
  · rw [if_pos h1, decide_eq_false (by omega)]; rfl
  · rw [if_neg h1]
    by_cases h2 : x = y
    · rw [if_pos h2, decide_eq_true h2]; rfl
    · rw [if_neg h2, decide_eq_false h2]; rfl
theorem to_left (s : Bool) (hF : Fst l o c A) (hl : ∀ v ∈ l, still v = true) (hC : Canon 65536 A) (hn : A.length < 1000000) {neg : Bool} {E N M : Int} {q k : Nat} (hk : k < 1000000) (hq : q = vb 65536 A / 2 ^ (k + 1)) (hs : s = decide ((k + 1) / 16 < A.length)) (hlost : vb 65536 A % 2 ^ (k + 1) ≠ 0) {half : Bool} {X : Code} {P : Ex → Lf → Prop}
    (h : ∀ J g, RunsW (tabH Tryz.prog extY conN hcW) X (fT neg E N M o A.length c ((k + 1 : Nat) : Int) (qS s q) ++ [.bool true, .bool half, J, .bool (half && decide (vb 65536 A % 2 ^ (k + 1) = 2 ^ k))] ++ tl 92 g, hS s neg E o A.length c l q, []) P) (g : Nat → Value) :
    RunsW (tabH Tryz.prog extY conN hcW) (seqs (tS2 Tryz.f80) X) (fT neg E N M o A.length c ((k + 1 : Nat) : Int) (qS s q) ++ [.bool true, .bool half] ++ tl 94 g, hS s neg E o A.length c l q, []) P := by
  have hT0 : vb 65536 A ≠ 0 := fun h0 => hlost (by rw [h0]; exact Nat.zero_mod _)
  have hn0 : 0 < A.length := by
    rcases Nat.eq_zero_or_pos A.length with h0 | h0
    · have : A = [] := List.length_eq_zero_iff.1 h0
      subst this
      exact absurd rfl hT0
    · exact h0
  have hp : 0 < 2 ^ (k + 1) := Nat.pow_pos (by omega)
  have hdm := Nat.div_add_mod (vb 65536 A) (2 ^ (k + 1))
  rw [← hq] at hdm
  have hqle : q ≤ vb 65536 A := by rw [hq]; exact Nat.div_le_self _ _
  have hTl : vb 65536 A < 65536 ^ A.length := vb_lt (by omega) A hC.1
  have lenOf : ∀ V, V ≤ vb 65536 A → (d16 V).length ≤ A.length := fun V hV => db_len (by omega) _ V (by omega)
  have hql := lenOf q hqle
  have e1 : dif ((k + 1 : Nat) : Int) 1 = (k : Int) := by unfold dif; rw [wrapI (by omega) (by omega)]; omega
  have e2 : (((k + 1 : Nat) : Int)).toNat = k + 1 := by omega
  have hA3 : (d16 (1 * 2 ^ k)).length ≤ k + 1 := db_len (by omega) _ _ (by
    rw [pow16]
    have := Nat.pow_lt_pow_right (show 1 < 2 by omega) (show k < 16 * (k + 1) by omega)
    omega)
  have b1 : ∀ q', (hS s neg E o A.length c l q').blk? 0 = some (l, tR) := fun q' => by cases s <;> rfl
  have sq0 : s = false → q = 0 := fun h0 => by
    rw [h0] at hs
    have h1 := of_decide_eq_false hs.symm
    rw [hq]
    refine Nat.div_eq_of_lt (Nat.lt_of_lt_of_le hTl ?_)
    rw [pow16]
    exact Nat.pow_le_pow_right (by omega) (by omega)
  have hlen := okLen_fst hF hC (by omega) (b1 q)
  have hvT := vO_fst hF (b1 q)
  by_cases hdl : ((k + 1 : Nat) : Int) ≤ ((bl (vb 65536 A) : Nat) : Int)
  · by_cases hdq : 0 < (d16 q).length
    · -- a difference of two
      have hq1 := d16_pos hdq
      cases s with
      | false => exact absurd (sq0 rfl) hq1
      | true =>
        simp only [hS, qS] at *
        have r2 : (hQ neg E o A.length c l q).blk? 2 = some (wU (d16 q), tU) := rfl
        have hsub : vb 65536 A - q * 2 ^ (k + 1) = vb 65536 A % 2 ^ (k + 1) := by rw [Nat.mul_comm]; omega
        have hle : q * 2 ^ (k + 1) ≤ vb 65536 A := by rw [Nat.mul_comm]; omega
        have eA : vO (hQ neg E o A.length c l q) (some ⟨2, 0, none⟩) (d16 q).length * 2 ^ (((k + 1 : Nat) : Int)).toNat = q * 2 ^ (k + 1) := by rw [vO_d16 (A := q) (ty := tU) rfl, e2]
        have lA := lenOf _ hle
        have lS := lenOf (vb 65536 A % 2 ^ (k + 1)) (Nat.mod_le _ _)
        have eS : vO (nxt (hQ neg E o A.length c l q) (q * 2 ^ (k + 1))) (aX o) A.length - vO (nxt (hQ neg E o A.length c l q) (q * 2 ^ (k + 1))) (some ⟨3, 0, none⟩) (d16 (q * 2 ^ (k + 1))).length = vb 65536 A % 2 ^ (k + 1) := by
          rw [vO_fst hF rfl, vO_d16 (A := q * 2 ^ (k + 1)) (ty := tU) rfl, hsub]
        have g1 : okLog [(two16 (nxt (hQ neg E o A.length c l q) (q * 2 ^ (k + 1))) (aX o) (some ⟨3, 0, none⟩) A.length c (d16 (q * 2 ^ (k + 1))).length (d16 (q * 2 ^ (k + 1))).length && Nat.ble (vO (nxt (hQ neg E o A.length c l q) (q * 2 ^ (k + 1))) (some ⟨3, 0, none⟩) (d16 (q * 2 ^ (k + 1))).length) (vO (nxt (hQ neg E o A.length c l q) (q * 2 ^ (k + 1))) (aX o) A.length), true), (decide (0 < A.length), true), (okShl (hQ neg E o A.length c l q) (some ⟨2, 0, none⟩) (d16 q).length (d16 q).length ((k + 1 : Nat) : Int), true), (decide (0 < (d16 q).length), true), (decide (((k + 1 : Nat) : Int) ≤ ((bl (vO (hQ neg E o A.length c l q) (aX o) A.length) : Nat) : Int)), true), (okLen (hQ neg E o A.length c l q) (aX o) A.length c, true)] := by
          have p5 : decide (((k + 1 : Nat) : Int) ≤ ((bl (vO (hQ neg E o A.length c l q) (aX o) A.length) : Nat) : Int)) = true := by rw [hvT]; exact decide_eq_true hdl
          have p3 : okShl (hQ neg E o A.length c l q) (some ⟨2, 0, none⟩) (d16 q).length (d16 q).length ((k + 1 : Nat) : Int) = true := okShl_d16 r2 (by omega) (by omega)
          have p6 : okLen (hQ neg E o A.length c l q) (aX o) A.length c = true := okLen_fst hF hC (by omega) rfl
          have p2 : decide (0 < A.length) = true := decide_eq_true hn0
          have p4 : decide (0 < (d16 q).length) = true := decide_eq_true hdq
          refine okCons ?_ (okCons p2 (okCons p3 (okCons p4 (okCons p5 (okL1 p6)))))
          rw [two_fst hF hC (by omega) rfl (V := q * 2 ^ (k + 1)) rfl (by omega), vO_fst hF rfl, vO_d16 (A := q * 2 ^ (k + 1)) (ty := tU) rfl, Nat.ble_eq_true_of_le hle]
          rfl
        cases half with
        | false =>
          refine goesT_listW (tabH_ok conN_ok hcW_ok) (to_cr1F neg false E N M _ o A.length c q l g) (by rw [eA]; exact g1) fun g' => ?_
          rw [eA, eS]
          exact to_cut true (q := q) hl h _ g' _ (extra := [(wU (d16 (vb 65536 A % 2 ^ (k + 1))), tU), (wU (d16 (q * 2 ^ (k + 1))), tU)]) rfl
        | true =>
          have eP : vO (nxt (nxt (nxt (hQ neg E o A.length c l q) (q * 2 ^ (k + 1))) (vb 65536 A % 2 ^ (k + 1))) 1) (some ⟨5, 0, none⟩) (d16 1).length * 2 ^ (dif ((k + 1 : Nat) : Int) 1).toNat = 1 * 2 ^ k := by rw [vO_d16 (A := 1) (ty := tU) rfl, e1, Int.toNat_natCast]
          refine goesT_listW (tabH_ok conN_ok hcW_ok) (to_cr1T neg (decide (vb 65536 A % 2 ^ (k + 1) = 2 ^ k)) E N M _ o A.length c q l g) ?_ fun g' => ?_
          · rw [eA, eS, eP]
            refine okTwo ?_ (okTwo (two_d16 (A := vb 65536 A % 2 ^ (k + 1)) (A' := 1 * 2 ^ k) rfl rfl (by omega) (by omega)) (okTwo (by rw [e1]; exact okShl_d16 (A := 1) rfl (by omega) (by rw [d16_one]; omega)) (okTwo (decide_eq_true (by rw [d16_one]; omega)) (okTwo (by decide) g1))))
            dsimp only
            rw [vO_d16 (A := vb 65536 A % 2 ^ (k + 1)) (ty := tU) rfl, vO_d16 (A := 1 * 2 ^ k) (ty := tU) rfl, cmpZ_eq, Nat.one_mul]
          · rw [eA, eS, eP]
            exact to_cut true (q := q) hl h _ g' _ (extra := [(wU (d16 (1 * 2 ^ k)), tU), (wU (d16 1), tU), (wU (d16 (vb 65536 A % 2 ^ (k + 1))), tU), (wU (d16 (q * 2 ^ (k + 1))), tU)]) rfl
    · -- nothing is taken away
      have hq1 : q = 0 := d16_zero hdq
      have hTm : vb 65536 A % 2 ^ (k + 1) = vb 65536 A := by rw [hq1, Nat.mul_zero, Nat.zero_add] at hdm; exact hdm
      cases s with
      | true =>
        simp only [hS, qS] at *
        have p6 : okLen (hQ neg E o A.length c l q) (aX o) A.length c = true := okLen_fst hF hC (by omega) rfl
        have w1 : vO (hQ neg E o A.length c l q) (aX o) A.length = vb 65536 A := vO_fst hF rfl
        have p2 : decide (0 < A.length) = true := decide_eq_true hn0
        have eS : (vO (hQ neg E o A.length c l q) (aX o) A.length - vO (hQ neg E o A.length c l q) none 0) = vb 65536 A % 2 ^ (k + 1) := by rw [w1, vO_nil, Nat.sub_zero, hTm]
        have p5 : decide (((k + 1 : Nat) : Int) ≤ ((bl (vO (hQ neg E o A.length c l q) (aX o) A.length) : Nat) : Int)) = true := by rw [w1]; exact decide_eq_true hdl
        have p3 : rowP (hQ neg E o A.length c l q) (some ⟨2, 0, none⟩) (d16 q).length (d16 q).length = true := rowP_d16 (A := q) rfl (by omega)
        have p4 : decide (0 < (d16 q).length) = false := decide_eq_false hdq
        have p1 : (two16 (hQ neg E o A.length c l q) (aX o) none A.length c 0 0 && Nat.ble (vO (hQ neg E o A.length c l q) none 0) (vO (hQ neg E o A.length c l q) (aX o) A.length)) = true := by rw [two_fst0 hF hC (by omega) rfl, vO_nil]; rfl
        have lS := lenOf (vb 65536 A % 2 ^ (k + 1)) (Nat.mod_le _ _)
        cases half with
        | false =>
          refine goesT_listW (tabH_ok conN_ok hcW_ok) (to_cr2F neg false E N M _ o A.length c q l g) (okCons p1 (okCons p2 (okCons p3 (okCons p4 (okCons p5 (okL1 p6)))))) fun g' => ?_
          rw [eS]
          exact to_cut true (q := q) hl h _ g' _ (extra := [(wU (d16 (vb 65536 A % 2 ^ (k + 1))), tU)]) rfl
        | true =>
          have eP : vO (nxt (nxt (hQ neg E o A.length c l q) (vb 65536 A % 2 ^ (k + 1))) 1) (some ⟨4, 0, none⟩) (d16 1).length * 2 ^ (dif ((k + 1 : Nat) : Int) 1).toNat = 1 * 2 ^ k := by rw [vO_d16 (A := 1) (ty := tU) rfl, e1, Int.toNat_natCast]
          refine goesT_listW (tabH_ok conN_ok hcW_ok) (to_cr2T neg (decide (vb 65536 A % 2 ^ (k + 1) = 2 ^ k)) E N M _ o A.length c q l g) ?_ fun g' => ?_
          · rw [eS, eP]
            refine okTwo ?_ (okTwo (two_d16 (A := vb 65536 A % 2 ^ (k + 1)) (A' := 1 * 2 ^ k) rfl rfl (by omega) (by omega)) (okTwo (by rw [e1]; exact okShl_d16 (A := 1) rfl (by omega) (by rw [d16_one]; omega)) (okTwo (decide_eq_true (by rw [d16_one]; omega)) (okTwo (by decide) (okCons p1 (okCons p2 (okCons p3 (okCons p4 (okCons p5 (okL1 p6))))))))))
            dsimp only
            rw [vO_d16 (A := vb 65536 A % 2 ^ (k + 1)) (ty := tU) rfl, vO_d16 (A := 1 * 2 ^ k) (ty := tU) rfl, cmpZ_eq, Nat.one_mul]
          · rw [eS, eP]
            exact to_cut true (q := q) hl h _ g' _ (extra := [(wU (d16 (1 * 2 ^ k)), tU), (wU (d16 1), tU), (wU (d16 (vb 65536 A % 2 ^ (k + 1))), tU)]) rfl
      | false =>
        simp only [hS, qS] at *
        have p6 : okLen (hX neg E o A.length c l) (aX o) A.length c = true := okLen_fst hF hC (by omega) rfl
        have w1 : vO (hX neg E o A.length c l) (aX o) A.length = vb 65536 A := vO_fst hF rfl
        have p2 : decide (0 < A.length) = true := decide_eq_true hn0
        have eS : (vO (hX neg E o A.length c l) (aX o) A.length - vO (hX neg E o A.length c l) none 0) = vb 65536 A % 2 ^ (k + 1) := by rw [w1, vO_nil, Nat.sub_zero, hTm]
        have p5 : decide (((k + 1 : Nat) : Int) ≤ ((bl (vO (hX neg E o A.length c l) (aX o) A.length) : Nat) : Int)) = true := by rw [w1]; exact decide_eq_true hdl
        have p3 : rowP (hX neg E o A.length c l) none 0 0 = true := rfl
        have p4 : decide (0 < 0) = false := rfl
        have p1 : (two16 (hX neg E o A.length c l) (aX o) none A.length c 0 0 && Nat.ble (vO (hX neg E o A.length c l) none 0) (vO (hX neg E o A.length c l) (aX o) A.length)) = true := by rw [two_fst0 hF hC (by omega) rfl, vO_nil]; rfl
        have lS := lenOf (vb 65536 A % 2 ^ (k + 1)) (Nat.mod_le _ _)
        cases half with
        | false =>
          refine goesT_listW (tabH_ok conN_ok hcW_ok) (to_cn2F neg false E N M _ o A.length c q l g) (okCons p1 (okCons p2 (okCons p3 (okCons p4 (okCons p5 (okL1 p6)))))) fun g' => ?_
          rw [eS]
          exact to_cut false (q := q) hl h _ g' _ (extra := [(wU (d16 (vb 65536 A % 2 ^ (k + 1))), tU)]) rfl
        | true =>
          have eP : vO (nxt (nxt (hX neg E o A.length c l) (vb 65536 A % 2 ^ (k + 1))) 1) (some ⟨3, 0, none⟩) (d16 1).length * 2 ^ (dif ((k + 1 : Nat) : Int) 1).toNat = 1 * 2 ^ k := by rw [vO_d16 (A := 1) (ty := tU) rfl, e1, Int.toNat_natCast]
          refine goesT_listW (tabH_ok conN_ok hcW_ok) (to_cn2T neg (decide (vb 65536 A % 2 ^ (k + 1) = 2 ^ k)) E N M _ o A.length c q l g) ?_ fun g' => ?_
          · rw [eS, eP]
            refine okTwo ?_ (okTwo (two_d16 (A := vb 65536 A % 2 ^ (k + 1)) (A' := 1 * 2 ^ k) rfl rfl (by omega) (by omega)) (okTwo (by rw [e1]; exact okShl_d16 (A := 1) rfl (by omega) (by rw [d16_one]; omega)) (okTwo (decide_eq_true (by rw [d16_one]; omega)) (okTwo (by decide) (okCons p1 (okCons p2 (okCons p3 (okCons p4 (okCons p5 (okL1 p6))))))))))
            dsimp only
            rw [vO_d16 (A := vb 65536 A % 2 ^ (k + 1)) (ty := tU) rfl, vO_d16 (A := 1 * 2 ^ k) (ty := tU) rfl, cmpZ_eq, Nat.one_mul]
          · rw [eS, eP]
            exact to_cut false (q := q) hl h _ g' _ (extra := [(wU (d16 (1 * 2 ^ k)), tU), (wU (d16 1), tU), (wU (d16 (vb 65536 A % 2 ^ (k + 1))), tU)]) rfl
  · -- the number itself is left
    have hTs : vb 65536 A < 2 ^ (k + 1) := by
      have h1 := bl_lt (vb 65536 A)
      have h2 := Nat.pow_le_pow_right (show 0 < 2 by omega) (show bl (vb 65536 A) ≤ k + 1 by omega)
      omega
    have hTm : vb 65536 A % 2 ^ (k + 1) = vb 65536 A := Nat.mod_eq_of_lt hTs
    cases s with
    | true =>
      simp only [hS, qS] at *
      have p6 : okLen (hQ neg E o A.length c l q) (aX o) A.length c = true := okLen_fst hF hC (by omega) rfl
      have w1 : vO (hQ neg E o A.length c l q) (aX o) A.length = vb 65536 A := vO_fst hF rfl
      have p5 : decide (((k + 1 : Nat) : Int) ≤ ((bl (vO (hQ neg E o A.length c l q) (aX o) A.length) : Nat) : Int)) = false := by rw [w1]; exact decide_eq_false hdl
      cases half with
      | false =>
        refine goesT_listW (tabH_ok conN_ok hcW_ok) (to_cr0F neg false E N M _ o A.length c q l g) (okCons p5 (okL1 p6)) fun g' => ?_
        exact to_cut true (q := q) hl h _ g' _ (extra := []) rfl
      | true =>
        have eP : vO (nxt (hQ neg E o A.length c l q) 1) (some ⟨3, 0, none⟩) (d16 1).length * 2 ^ (dif ((k + 1 : Nat) : Int) 1).toNat = 1 * 2 ^ k := by rw [vO_d16 (A := 1) (ty := tU) rfl, e1, Int.toNat_natCast]
        refine goesT_listW (tabH_ok conN_ok hcW_ok) (to_cr0T neg (decide (vb 65536 A % 2 ^ (k + 1) = 2 ^ k)) E N M _ o A.length c q l g) ?_ fun g' => ?_
        · rw [eP]
          have pt : two16 (nxt (nxt (hQ neg E o A.length c l q) 1) (1 * 2 ^ k)) (aX o) (some ⟨4, 0, none⟩) A.length c (d16 (1 * 2 ^ k)).length (d16 (1 * 2 ^ k)).length = true := two_fst hF hC (by omega) rfl (V := 1 * 2 ^ k) rfl (by omega)
          refine okTwo ?_ (okTwo (by dsimp only; exact pt) (okTwo (by rw [e1]; exact okShl_d16 (A := 1) rfl (by omega) (by rw [d16_one]; omega)) (okTwo (decide_eq_true (by rw [d16_one]; omega)) (okTwo (by decide) (okCons p5 (okL1 p6))))))
          dsimp only
          rw [vO_fst hF rfl, vO_d16 (A := 1 * 2 ^ k) (ty := tU) rfl, cmpZ_eq, Nat.one_mul, hTm]
        · rw [eP]
          exact to_cut true (q := q) hl h _ g' _ (extra := [(wU (d16 (1 * 2 ^ k)), tU), (wU (d16 1), tU)]) rfl
    | false =>
      simp only [hS, qS] at *
      have p6 : okLen (hX neg E o A.length c l) (aX o) A.length c = true := okLen_fst hF hC (by omega) rfl
      have w1 : vO (hX neg E o A.length c l) (aX o) A.length = vb 65536 A := vO_fst hF rfl
      have p5 : decide (((k + 1 : Nat) : Int) ≤ ((bl (vO (hX neg E o A.length c l) (aX o) A.length) : Nat) : Int)) = false := by rw [w1]; exact decide_eq_false hdl
      cases half with
      | false =>
        refine goesT_listW (tabH_ok conN_ok hcW_ok) (to_cn0F neg false E N M _ o A.length c q l g) (okCons p5 (okL1 p6)) fun g' => ?_
        exact to_cut false (q := q) hl h _ g' _ (extra := []) rfl
      | true =>
        have eP : vO (nxt (hX neg E o A.length c l) 1) (some ⟨2, 0, none⟩) (d16 1).length * 2 ^ (dif ((k + 1 : Nat) : Int) 1).toNat = 1 * 2 ^ k := by rw [vO_d16 (A := 1) (ty := tU) rfl, e1, Int.toNat_natCast]
        refine goesT_listW (tabH_ok conN_ok hcW_ok) (to_cn0T neg (decide (vb 65536 A % 2 ^ (k + 1) = 2 ^ k)) E N M _ o A.length c q l g) ?_ fun g' => ?_
        · rw [eP]
          have pt : two16 (nxt (nxt (hX neg E o A.length c l) 1) (1 * 2 ^ k)) (aX o) (some ⟨3, 0, none⟩) A.length c (d16 (1 * 2 ^ k)).length (d16 (1 * 2 ^ k)).length = true := two_fst hF hC (by omega) rfl (V := 1 * 2 ^ k) rfl (by omega)
          refine okTwo ?_ (okTwo (by dsimp only; exact pt) (okTwo (by rw [e1]; exact okShl_d16 (A := 1) rfl (by omega) (by rw [d16_one]; omega)) (okTwo (decide_eq_true (by rw [d16_one]; omega)) (okTwo (by decide) (okCons p5 (okL1 p6))))))
          dsimp only
          rw [vO_fst hF rfl, vO_d16 (A := 1 * 2 ^ k) (ty := tU) rfl, cmpZ_eq, Nat.one_mul, hTm]
        · rw [eP]
          exact to_cut false (q := q) hl h _ g' _ (extra := [(wU (d16 (1 * 2 ^ k)), tU), (wU (d16 1), tU)]) rfl
end
/-- a row, not nothing -/
def rowTo (M : Int) (neg : Bool) (T n : Nat) (E N : Int) : Bool := if N ≤ E then decide (0 < n) else (decide ((N - E).toNat / 16 < n) || (decide (T % 2 ^ (N - E).toNat ≠ 0) && upR M neg (odd (T / 2 ^ (N - E).toNat)) (restC (T % 2 ^ (N - E).toNat) (2 ^ (N - E).toNat))))
/-- what To answers: a row or nothing -/
def toOut (F : Func) (rw : Bool) (V : Nat) (oth : Bool) (z : Lf) : Prop := (rw = true → ∃ k, resS Tryz.prog F z.1 z.2.1 = some (.tuple #[sOf k V, .bool oth]) ∧ ∃ r, z.2.1.blk? k = some (wU (d16 V) ++ r, tU)) ∧ (rw = false → resS Tryz.prog F z.1 z.2.1 = some (.tuple #[nilS, .bool oth]))
section
variable {l : List Value} {o c : Nat} {A : List Int}
theorem rowD_fst (hF : Fst l o c A) (hC : Canon 65536 A) (hn : A.length < 1073741824) {h : Hp} (hh : h.blk? 0 = some (l, tR)) : rowD h (aX o) A.length c = true := by
  unfold rowD aX
  rw [(hF h hh).1, (hF h hh).2, dgB_mk hC.1, blt_iff.2 hn]
  rfl
theorem to_runs (hF : Fst l o c A) (hl : ∀ v ∈ l, still v = true) (hC : Canon 65536 A) (hn : A.length < 1000000) {neg : Bool} {E N M : Int} (hE : -400000 ≤ E ∧ E ≤ 400000) (hN : -400000 ≤ N ∧ N ≤ 400000) :
    RunsW (tabH Tryz.prog extY conN hcW) (cBody Tryz.f80) ([vRN neg E (sl 0 o A.length c), .int .i64 N, .int .i64 M] ++ List.replicate 103 undef, ⟨1, [(l, tR)]⟩, []) fun ex z => (ex = none ∨ ex = some none) ∧ toOut Tryz.f80 (rowTo M neg (vb 65536 A) A.length E N) (toQ M neg (vb 65536 A) E N) (toL (vb 65536 A) E N) z := by
  have hb0 : (hX neg E o A.length c l).blk? 0 = some (l, tR) := rfl
  have hv := vO_fst hF hb0
  have hrow := (hF _ hb0).1
  have hrf := (hF _ hb0).2
  by_cases hup : N ≤ E
  · have ed : dif E N = ((E - N).toNat : Int) := by unfold dif; rw [wrapI (by omega) (by omega)]; omega
    have ge : decide (E ≥ N) = true := decide_eq_true hup
    unfold rowTo toQ toL
    rw [if_pos hup, if_pos hup, if_pos hup]
    by_cases h0 : 0 < A.length
    · rw [decide_eq_true h0]
      have ok : okShl (hX neg E o A.length c l) (aX o) A.length c (dif E N) = true := by
        unfold okShl aX
        rw [hrow, hrf, dgB_mk hC.1, ed, Int.toNat_natCast, blt_iff.2 (by omega), decide_eq_true (by omega)]
        rfl
      refine (goesT_runsW (tabH_ok conN_ok hcW_ok) (to_upT neg E N M o A.length c l) (okCons ok (okCons (decide_eq_true h0) (okL1 ge)))).mono fun ex z hz => ?_
      rw [hv, ed, Int.toNat_natCast] at hz
      obtain ⟨rfl, ⟨g', z1⟩, z2⟩ := hz
      refine ⟨.inr rfl, fun _ => ⟨2, ?_, [], ?_⟩, fun h => by cases h⟩
      · rw [z1, z2]; rfl
      · rw [z2, List.append_nil]; rfl
    · rw [decide_eq_false h0]
      refine (goesT_runsW (tabH_ok conN_ok hcW_ok) (to_upF neg E N M o A.length c l) (okCons hrow (okCons (decide_eq_false h0) (okL1 ge)))).mono fun ex z hz => ?_
      obtain ⟨rfl, ⟨g', z1⟩, z2⟩ := hz
      refine ⟨.inr rfl, (fun h => by cases h), fun _ => ?_⟩
      rw [z1, z2]; rfl
  · obtain ⟨k, hk⟩ : ∃ k : Nat, N - E = ((k + 1 : Nat) : Int) := ⟨(N - E).toNat - 1, by omega⟩
    have ed : dif N E = ((k + 1 : Nat) : Int) := by unfold dif; rw [wrapI (by omega) (by omega), hk]
    have ekn : (N - E).toNat = k + 1 := by omega
    have e2 : (((k + 1 : Nat) : Int)).toNat = k + 1 := by omega
    have ge : decide (E ≥ N) = false := decide_eq_false (by omega)
    have ok : okShr (hX neg E o A.length c l) (aX o) A.length c (dif N E) = true := by
      unfold okShr aX
      rw [hrow, hrf, dgB_mk hC.1, ed, blt_iff.2 (by omega), decide_eq_true (by omega)]
      rfl
    have ew : decide ((dif N E).toNat / 16 < A.length) = decide ((k + 1) / 16 < A.length) := by rw [ed, e2]
    have el : decide (vO (hX neg E o A.length c l) (aX o) A.length % 2 ^ (dif N E).toNat ≠ 0) = decide (vb 65536 A % 2 ^ (k + 1) ≠ 0) := by rw [hv, ed, e2]
    unfold rowTo toQ toL
    rw [if_neg hup, if_neg hup, if_neg hup, ekn]
    by_cases hlost : vb 65536 A % 2 ^ (k + 1) = 0
    · have ed0 : decide (vb 65536 A % 2 ^ (k + 1) ≠ 0) = false := decide_eq_false (by omega)
      rw [ed0, rq_exact hlost, Bool.false_and, Bool.or_false]
      rw [ed0] at el
      by_cases hw : (k + 1) / 16 < A.length
      · rw [decide_eq_true hw] at ew ⊢
        refine (goesT_runsW (tabH_ok conN_ok hcW_ok) (to_dnT neg E N M o A.length c l) (okCons el (okCons ew (okCons ok (okL1 ge))))).mono fun ex z hz => ?_
        rw [hv, ed, e2] at hz
        obtain ⟨rfl, ⟨g', z1⟩, z2⟩ := hz
        refine ⟨.inr rfl, fun _ => ⟨2, ?_, [], ?_⟩, fun h => by cases h⟩
        · rw [z1, z2]; rfl
        · rw [z2, List.append_nil]; rfl
      · rw [decide_eq_false hw] at ew ⊢
        refine (goesT_runsW (tabH_ok conN_ok hcW_ok) (to_dnF neg E N M o A.length c l) (okCons el (okCons ew (okCons ok (okL1 ge))))).mono fun ex z hz => ?_
        obtain ⟨rfl, ⟨g', z1⟩, z2⟩ := hz
        refine ⟨.inr rfl, (fun h => by cases h), fun _ => ?_⟩
        rw [z1, z2]; rfl
    · have ed1 : decide (vb 65536 A % 2 ^ (k + 1) ≠ 0) = true := decide_eq_true hlost
      rw [ed1, Bool.true_and]
      rw [ed1] at el
      have ecode : cBody Tryz.f80 = seqs (tS1 Tryz.f80) (seqs (tS2 Tryz.f80) (.seq (tS3 Tryz.f80) (.seq (tS4 Tryz.f80) (tS5 Tryz.f80)))) := Option.some.inj (to_body.symm.trans to_body3)
      rw [ecode]
      have hTl : vb 65536 A < 65536 ^ A.length := vb_lt (by omega) A hC.1
      have hql : (d16 (vb 65536 A / 2 ^ (k + 1))).length ≤ A.length := db_len (by omega) _ _ (Nat.lt_of_le_of_lt (Nat.div_le_self _ _) hTl)
      have sq0 : decide ((k + 1) / 16 < A.length) = false → vb 65536 A / 2 ^ (k + 1) = 0 := fun h0 => by
        have h1 := of_decide_eq_false h0
        refine Nat.div_eq_of_lt (Nat.lt_of_lt_of_le hTl ?_)
        rw [pow16]
        exact Nat.pow_le_pow_right (by omega) (by omega)
      have e1 : dif (dif N E) 1 = (k : Int) := by rw [ed]; unfold dif; rw [wrapI (by omega) (by omega)]; omega
      have hh : ∀ T : Nat, (((T / 2 ^ k % 2 : Nat) : Int) == 1) = decide (2 ^ k ≤ T % 2 ^ (k + 1)) := fun T => by
        rw [Bool.eq_iff_iff]
        simp only [beq_iff_eq, decide_eq_true_eq, ← half_iff]
        omega
      have hu := up_doc (r := vb 65536 A % 2 ^ (k + 1)) (k := k) hlost M neg (odd (vb 65536 A / 2 ^ (k + 1)))
      -- what comes behind the first piece
      have rest : ∀ s, s = decide ((k + 1) / 16 < A.length) → ∀ g, RunsW (tabH Tryz.prog extY conN hcW) (seqs (tS2 Tryz.f80) (.seq (tS3 Tryz.f80) (.seq (tS4 Tryz.f80) (tS5 Tryz.f80)))) (fT neg E N M o A.length c ((k + 1 : Nat) : Int) (qS s (vb 65536 A / 2 ^ (k + 1))) ++ [.bool true, .bool (decide (2 ^ k ≤ vb 65536 A % 2 ^ (k + 1)))] ++ tl 94 g, hS s neg E o A.length c l (vb 65536 A / 2 ^ (k + 1)), [])
          fun ex z => (ex = none ∨ ex = some none) ∧ toOut Tryz.f80 (s || upR M neg (odd (vb 65536 A / 2 ^ (k + 1))) (restC (vb 65536 A % 2 ^ (k + 1)) (2 ^ (k + 1)))) (rq M neg (vb 65536 A) (k + 1)) true z := by
        intro s hs g
        refine to_left s hF hl hC hn (by omega) rfl hs hlost (fun J g => ?_) g
        refine RunsW.seq (to_even s (fun h0 => sq0 (by rw [← hs]; exact h0)) (fun h0 => by rw [h0]; rfl) g) ?_ (fun e y he => by cases he.1)
        rintro ⟨t, h', sc⟩ ⟨_, ⟨g, ht⟩, hh'⟩
        simp only at ht hh'
        subst ht hh'
        refine RunsW.seq (RunsW.script (to_mode s g)) ?_ (fun e y he => by cases he.1)
        rintro ⟨t, h', sc⟩ ⟨_, ⟨g, ht⟩, hh'⟩
        simp only at ht hh'
        subst ht hh'
        have eu : upM M neg (decide (2 ^ k ≤ vb 65536 A % 2 ^ (k + 1))) (decide (2 ^ k ≤ vb 65536 A % 2 ^ (k + 1)) && (!(decide (2 ^ k ≤ vb 65536 A % 2 ^ (k + 1)) && decide (vb 65536 A % 2 ^ (k + 1) = 2 ^ k)) || odd (vb 65536 A / 2 ^ (k + 1)))) = upR M neg (odd (vb 65536 A / 2 ^ (k + 1))) (restC (vb 65536 A % 2 ^ (k + 1)) (2 ^ (k + 1))) := by
          rw [hu]
          unfold upM
          cases decide (2 ^ k ≤ vb 65536 A % 2 ^ (k + 1)) <;> simp
        rw [eu]
        refine (RunsW.script (to_last s (by omega) (fun h0 => sq0 (by rw [← hs]; exact h0)) g)).mono fun ex z hz => ?_
        obtain ⟨z0, z1, z2⟩ := hz
        unfold rq
        refine ⟨z0, fun hr => z1 (by simpa using hr), fun hr => z2 (by simpa using hr)⟩
      by_cases hw : (k + 1) / 16 < A.length
      · rw [decide_eq_true hw] at ew ⊢
        have rs := rest true (decide_eq_true hw).symm
        refine goesT_listW (tabH_ok conN_ok hcW_ok) (to_s1T neg (decide (2 ^ k ≤ vb 65536 A % 2 ^ (k + 1))) E N M o A.length c l) ?_ fun g => ?_
        · have hbn : (nxt (hX neg E o A.length c l) (vO (hX neg E o A.length c l) (aX o) A.length / 2 ^ (dif N E).toNat)).blk? 0 = some (l, tR) := rfl
          refine okCons ?_ (okCons ?_ (okCons ?_ (okCons el (okCons ew (okCons ok (okL1 ge))))))
          · rw [vO_fst hF hbn, e1, Int.toNat_natCast]
            exact hh _
          · exact rowD_fst hF hC (by omega) hbn
          · rw [e1]
            exact decide_eq_true ⟨by omega, by omega⟩
        · rw [hv, ed, e2]
          exact rs g
      · rw [decide_eq_false hw] at ew ⊢
        have rs := rest false (decide_eq_false hw).symm
        refine goesT_listW (tabH_ok conN_ok hcW_ok) (to_s1F neg (decide (2 ^ k ≤ vb 65536 A % 2 ^ (k + 1))) E N M o A.length c l) ?_ fun g => ?_
        · refine okCons ?_ (okCons ?_ (okCons ?_ (okCons el (okCons ew (okCons ok (okL1 ge))))))
          · rw [hv, e1, Int.toNat_natCast]
            exact hh _
          · unfold rowD aX
            rw [hrow, hrf, dgB_mk hC.1, blt_iff.2 (by omega)]
            rfl
          · rw [e1]
            exact decide_eq_true ⟨by omega, by omega⟩
        · rw [ed]
          exact rs g
end
def okTo (h : Hp) (p : Option Addr) (n c : Nat) (E N : Int) : Bool := rowP h p n c && canB (rowOf h p n) && Nat.blt n 1000000 && decide ((-400000 ≤ E ∧ E ≤ 400000) ∧ (-400000 ≤ N ∧ N ≤ 400000))
def gTo : AnsH := fun vals h s =>
  match vals, s with
  | [.agg cs, .int .i64 N, .int .i64 M], .inr (.inr (.inr (.inl d))) :: .inr (.inr (.inr (.inl e))) :: s' =>
    match cs.toList with
    | [.bool neg, .int .i64 E, .slice (some ⟨b, o, none⟩) n c] =>
      match d with
      | true => some (.tuple #[sOf h.n (toQ M neg (vO h (some ⟨b, o, none⟩) n) E N), .bool e], h.push (wU (d16 (toQ M neg (vO h (some ⟨b, o, none⟩) n) E N))) tU, s', [(toL (vO h (some ⟨b, o, none⟩) n) E N, e), (rowTo M neg (vO h (some ⟨b, o, none⟩) n) n E N, true), (okTo h (some ⟨b, o, none⟩) n c E N, true)])
      | false => some (.tuple #[nilS, .bool e], h, s', [(toL (vO h (some ⟨b, o, none⟩) n) E N, e), (rowTo M neg (vO h (some ⟨b, o, none⟩) n) n E N, false), (okTo h (some ⟨b, o, none⟩) n c E N, true)])
    | _ => none
  | _, _ => none
theorem gTo_ok : AnsHOk 80 gTo := by
  intro vals h s v h' s' lg hg hl m B w E0 hv
  unfold gTo at hg
  split at hg
  · rename_i cs N M d e s2
    split at hg
    · rename_i neg E b o n c hcs
      have ecs : cs = #[.bool neg, .int .i64 E, sl b o n c] := by
        have := congrArg List.toArray hcs
        simpa [sl] using this
      have key : toL (vO h (some ⟨b, o, none⟩) n) E N = e → rowTo M neg (vO h (some ⟨b, o, none⟩) n) n E N = d → okTo h (some ⟨b, o, none⟩) n c E N = true →
          ∃ l, (∀ v ∈ l, still v = true) ∧ (⟨1, [(l, tR)]⟩ : Hp).fits (fun _ => b) h ∧ RunsW (tabH Tryz.prog extY conN hcW) (cBody Tryz.f80) ([vRN neg E (sl 0 o n c), .int .i64 N, .int .i64 M] ++ List.replicate 103 undef, ⟨1, [(l, tR)]⟩, []) fun ex z => (ex = none ∨ ex = some none) ∧ toOut Tryz.f80 d (toQ M neg (vO h (some ⟨b, o, none⟩) n) E N) e z := by
        intro l1 l2 l3
        simp only [okTo, Bool.and_eq_true, decide_eq_true_eq] at l3
        obtain ⟨⟨⟨q1, q2⟩, q3⟩, q4⟩ := l3
        have q2 := canB_of q2
        have q3 := blt_iff.1 q3
        rcases rowP_cases q1 with ⟨h0, _⟩ | ⟨b', o', x, hp, hx, r1, rs, e0⟩
        · cases h0
        · cases hp
          rw [e0] at q2
          obtain ⟨h1, h2, h3, h4, h5, h6, h7⟩ := rowC_of r1
          have ev : vO h (some ⟨b, o, none⟩) n = vb 65536 (cutI x.1 o n) := by unfold vO; rw [e0]
          have r := to_runs (fst_of r1 rs) h7 q2 (by rw [h2]; exact q3) (neg := neg) (M := M) q4.1 q4.2
          rw [h2, ← ev, l1, l2] at r
          exact ⟨x.1, h7, fitsR1 hx h5 h6 rfl, r⟩
      have evals : List.map (rn fun _ => b) [vRN neg E (sl 0 o n c), .int .i64 N, .int .i64 M] = [.agg cs, .int .i64 N, .int .i64 M] := by
        rw [ecs]
        simp [rn, rn2, rn1, vRN, sl]
      split at hg
      · cases hg
        obtain ⟨l, p1, p2, p3⟩ := key (hl _ (List.mem_cons_self)) (hl _ (List.mem_cons_of_mem _ (List.mem_cons_self))) (hl _ (List.mem_cons_of_mem _ (List.mem_cons_of_mem _ (List.mem_singleton.2 rfl))))
        have fin := row_calls2 (T := tabH Tryz.prog extY conN hcW) Tryz.func80 to_body (rows1 p1) (vals := [vRN neg E (sl 0 o n c), .int .i64 N, .int .i64 M]) (fun v hv => by
          simp only [List.mem_cons, List.not_mem_nil, or_false] at hv
          rcases hv with h1 | h1 | h1 <;> rw [h1] <;> rfl) (v := fun k => .tuple #[sOf k (toQ M neg (vO h (some ⟨b, o, none⟩) n) E N), .bool e]) (wU_lt _) (by kernel_rfl) (p3.mono fun ex z hz => ⟨hz.1, hz.2.1 rfl⟩) (fun k => by simp [oc, oc2, oc1, sOf, sl]) E0 p2 (fun k => by simp [rn, rn2, rn1, sOf, sl])
        rw [evals] at fin
        exact fin
      · cases hg
        obtain ⟨l, p1, p2, p3⟩ := key (hl _ (List.mem_cons_self)) (hl _ (List.mem_cons_of_mem _ (List.mem_cons_self))) (hl _ (List.mem_cons_of_mem _ (List.mem_cons_of_mem _ (List.mem_singleton.2 rfl))))
        have fin := row_calls0 (T := tabH Tryz.prog extY conN hcW) Tryz.func80 to_body (rows1 p1) (vals := [vRN neg E (sl 0 o n c), .int .i64 N, .int .i64 M]) (fun v hv => by
          simp only [List.mem_cons, List.not_mem_nil, or_false] at hv
          rcases hv with h1 | h1 | h1 <;> rw [h1] <;> rfl) (v := .tuple #[nilS, .bool e]) (by rfl) (p3.mono fun ex z hz => ⟨hz.1, hz.2.2 rfl⟩) E0 p2
        rw [evals] at fin
        exact fin
    · cases hg
  · cases hg
/-! ### over, signed -/
def gOv : Ans := fun vals s =>
  match vals with
  | [.bool n, .int .i64 m] => some (.int .u64 (bey m n), s, [])
  | _ => none
theorem ov2 (n : Bool) (m : Int) : Fits (reckon (tabOf Tryz.prog extY conN true) 300 79 [.bool n, .int .i64 m] [cmp true]) (.int .u64 9218868437227405311) [(m == 2, true)] := ⟨by kernel_rfl, by kernel_rfl, by kernel_rfl, by kernel_rfl⟩
def ovV (b : Bool) : Value := match b with | true => .int .u64 9218868437227405311 | false => .int .u64 9218868437227405312
theorem ov3 (n : Bool) (m : Int) : Fits (reckon (tabOf Tryz.prog extY conN true) 300 79 [.bool n, .int .i64 m] [cmp false, cmp true, cmp false]) (ovV n) (match n with | true => [(m == 3, true), (m == 2, false)] | false => [(m == 4, false), (m == 3, true), (m == 2, false)]) := by
  cases n <;> exact ⟨by kernel_rfl, by kernel_rfl, by kernel_rfl, by kernel_rfl⟩
theorem ov4 (n : Bool) (m : Int) : Fits (reckon (tabOf Tryz.prog extY conN true) 300 79 [.bool n, .int .i64 m] [cmp false, cmp false, cmp true]) (ovV (!n)) [(m == 4, true), (m == 3, false), (m == 2, false)] := by
  cases n <;> exact ⟨by kernel_rfl, by kernel_rfl, by kernel_rfl, by kernel_rfl⟩
theorem ov0 (n : Bool) (m : Int) : Fits (reckon (tabOf Tryz.prog extY conN true) 300 79 [.bool n, .int .i64 m] [cmp false, cmp false, cmp false]) (.int .u64 9218868437227405312) [(m == 4, false), (m == 3, false), (m == 2, false)] := by
  cases n <;> exact ⟨by kernel_rfl, by kernel_rfl, by kernel_rfl, by kernel_rfl⟩
theorem gOv_ok : AnsOk 79 gOv := by
  intro vals s v s' lg h hl w
  unfold gOv at h
  split at h
  · rename_i n m
    cases h
    have hv : ([.bool n, .int .i64 m].all (lt 0)) = true := rfl
    by_cases h2 : m = 2
    · have e : bey m n = 9218868437227405311 := by rw [h2]; cases n <;> rfl
      rw [e]
      exact fits_calls (tabY_ok conN_ok) (ov2 n m) (okL1 (by rw [h2]; rfl)) hv (by rfl) w
    · have b2 : (m == 2) = false := by simp [h2]
      by_cases h3 : m = 3
      · have e : Value.int .u64 (bey m n) = ovV n := by rw [h3]; cases n <;> rfl
        rw [e]
        cases n
        · exact fits_calls (tabY_ok conN_ok) (ov3 false m) (okCons (by rw [h3]; rfl) (okCons (by rw [h3]; rfl) (okL1 b2))) hv (by rfl) w
        · exact fits_calls (tabY_ok conN_ok) (ov3 true m) (okCons (by rw [h3]; rfl) (okL1 b2)) hv (by rfl) w
      · have b3 : (m == 3) = false := by simp [h3]
        by_cases h4 : m = 4
        · have e : Value.int .u64 (bey m n) = ovV (!n) := by rw [h4]; cases n <;> rfl
          rw [e]
          exact fits_calls (tabY_ok conN_ok) (ov4 n m) (okCons (by rw [h4]; rfl) (okCons b3 (okL1 b2))) hv (by cases n <;> rfl) w
        · have b4 : (m == 4) = false := by simp [h4]
          have e : bey m n = 9218868437227405312 := by
            unfold bey upR
            rw [if_neg h2, if_neg h3, if_neg h4]
            split <;> first | omega | (simp; done)
          rw [e]
          exact fits_calls (tabY_ok conN_ok) (ov0 n m) (okCons b4 (okCons b3 (okL1 b2))) hv (by rfl) w
  · cases h
def sgV (n : Bool) (p : Int) : Int := match n with | true => IntKind.u64.wrap (p + 9223372036854775808) | false => p
theorem sg_fits (n : Bool) (p : Int) : Fits (reckon (tabOf Tryz.prog extY conN true) 300 77 [.int .u64 p, .bool n] []) (.int .u64 (sgV n p)) [] := by
  cases n <;> exact ⟨by kernel_rfl, by kernel_rfl, by kernel_rfl, by kernel_rfl⟩
def gSg : Ans := fun vals s =>
  match vals with
  | [.int .u64 p, .bool n] => some (.int .u64 (sS n p), s, [(decide (0 ≤ p ∧ p ≤ 9218868437227405312), true)])
  | _ => none
theorem gSg_ok : AnsOk 77 gSg := by
  intro vals s v s' lg h hl w
  unfold gSg at h
  split at h
  · rename_i p n
    cases h
    have hp := of_decide_eq_true (hl _ (List.mem_singleton.2 rfl))
    have e : sS n p = sgV n p := by
      cases n
      · rfl
      · simp only [sS, sgV, if_true]
        rw [Go.Pt.wrapU' ⟨by omega, by omega⟩]
        omega
    rw [e]
    exact fits_calls (tabY_ok conN_ok) (sg_fits n p) okNl (by rfl) (by rfl) w
  · cases h
def conQ : Con := alt 79 gOv (alt 77 gSg conN)
theorem conQ_ok : ConOk conQ := alt_ok Tryz.func79 rfl gOv_ok (alt_ok Tryz.func77 rfl gSg_ok conN_ok)
def hcQ : Hc := altH 80 gTo hcW
theorem hcQ_ok : HcOk hcQ := altH_ok Tryz.func80 rfl gTo_ok hcW_ok
/-! ### pieces -/
theorem ro_body : Tryz.f52.body = some (cBody Tryz.f52) := by kernel_rfl
def rS1 (F : Func) : List Code := [cFst (tC F 0), cFst (tC F 1)]
def rS2 (F : Func) : List Code := [cFst (tC F 2), cFst (tC F 3), cFst (tC F 4), cFst (tC F 5)]
def rS3 (F : Func) : List Code := [cFst (tC F 6), cFst (tC F 7), cFst (tC F 8), cFst (tC F 9)]
theorem ro_body2 : Tryz.f52.body = some (seqs (rS1 Tryz.f52) (tC Tryz.f52 2)) := by kernel_rfl
theorem ro_m1 (neg : Bool) (E M : Int) (o n c : Nat) (l : List Value) : GoesT (evL (tabH Tryz.prog extY conQ hcQ) 200 (rS1 Tryz.f52) ([vRN neg E (sl 0 o n c), .int .i64 M] ++ List.replicate 107 undef, ⟨1, [(l, tR)]⟩, [cmp true]) ⟨[], [], []⟩) 6 103 none [vRN neg E (sl 0 o n c), .int .i64 0, .pointer (some ⟨1, 0, none⟩), undef, .int .u64 0, .int .i64 0] (hX neg E o n c l) [(decide (M < 0), true)] := ⟨by kernel_rfl, by kernel_rfl, by kernel_rfl⟩
theorem ro_m2 (neg : Bool) (E M : Int) (o n c : Nat) (l : List Value) : GoesT (evL (tabH Tryz.prog extY conQ hcQ) 200 (rS1 Tryz.f52) ([vRN neg E (sl 0 o n c), .int .i64 M] ++ List.replicate 107 undef, ⟨1, [(l, tR)]⟩, [cmp false, cmp true]) ⟨[], [], []⟩) 6 103 none [vRN neg E (sl 0 o n c), .int .i64 0, .pointer (some ⟨1, 0, none⟩), undef, .int .u64 0, .int .i64 0] (hX neg E o n c l) [(decide (M > 4), true), (decide (M < 0), false)] := ⟨by kernel_rfl, by kernel_rfl, by kernel_rfl⟩
theorem ro_m3 (neg : Bool) (E M : Int) (o n c : Nat) (l : List Value) : GoesT (evL (tabH Tryz.prog extY conQ hcQ) 200 (rS1 Tryz.f52) ([vRN neg E (sl 0 o n c), .int .i64 M] ++ List.replicate 107 undef, ⟨1, [(l, tR)]⟩, [cmp false, cmp false]) ⟨[], [], []⟩) 6 103 none [vRN neg E (sl 0 o n c), .int .i64 M, .pointer (some ⟨1, 0, none⟩), undef, .int .u64 0, .int .i64 0] (hX neg E o n c l) [(decide (M > 4), false), (decide (M < 0), false)] := ⟨by kernel_rfl, by kernel_rfl, by kernel_rfl⟩
def sumI (x y : Int) : Int := IntKind.i64.wrap (x + y)
def okP (p : Int) : Bool × Bool := (decide (0 ≤ p ∧ p ≤ 9218868437227405312), true)
theorem ro_zero (neg : Bool) (E m : Int) (o n c : Nat) (l : List Value) (g : Nat → Value) : GoesT (evC (tabH Tryz.prog extY conQ hcQ) 200 false (tC Tryz.f52 2) ([vRN neg E (sl 0 o n c), .int .i64 m, .pointer (some ⟨1, 0, none⟩), undef, .int .u64 0, .int .i64 0] ++ tl 103 g, (hX neg E o n c l), [cmp true]) ⟨[], [], []⟩) 6 103 (some none) [vRN neg E (sl 0 o n c), .int .i64 m, .pointer (some ⟨1, 0, none⟩), undef, .int .u64 (sS neg 0), .int .i64 0] (hX neg E o n c l) [okP 0, ((n : Int) == 0, true)] := ⟨by kernel_rfl, by kernel_rfl, by kernel_rfl⟩
theorem ro_big (neg : Bool) (E m : Int) (o n c : Nat) (l : List Value) (g : Nat → Value) : GoesT (evC (tabH Tryz.prog extY conQ hcQ) 200 false (tC Tryz.f52 2) ([vRN neg E (sl 0 o n c), .int .i64 m, .pointer (some ⟨1, 0, none⟩), undef, .int .u64 0, .int .i64 0] ++ tl 103 g, (hX neg E o n c l), [cmp false, cmp true]) ⟨[], [], []⟩) 6 103 (some none) [vRN neg E (sl 0 o n c), .int .i64 m, .pointer (some ⟨1, 0, none⟩), undef, .int .u64 (sS neg (bey m neg)), .int .i64 20] (hX neg E o n c l) [okP (bey m neg), (decide ((sumI E ((bl (vO (hX neg E o n c l) (aX o) n) : Nat) : Int)) > 1100), true), (okLen (hX neg E o n c l) (aX o) n c, true), ((n : Int) == 0, false)] := ⟨by kernel_rfl, by kernel_rfl, by kernel_rfl⟩
theorem ro_mid (neg : Bool) (E m : Int) (o n c : Nat) (l : List Value) (g : Nat → Value) : GoesT (evL (tabH Tryz.prog extY conQ hcQ) 200 (rS2 Tryz.f52) ([vRN neg E (sl 0 o n c), .int .i64 m, .pointer (some ⟨1, 0, none⟩), undef, .int .u64 0, .int .i64 0] ++ tl 103 g, (hX neg E o n c l), [cmp false, cmp false, cmp false]) ⟨[], [], []⟩) 7 102 none [vRN neg E (sl 0 o n c), .int .i64 m, .pointer (some ⟨1, 0, none⟩), undef, .int .u64 0, .int .i64 0, .int .i64 (sumI E ((bl (vO (hX neg E o n c l) (aX o) n) : Nat) : Int))] (hX neg E o n c l) [(decide ((sumI E ((bl (vO (hX neg E o n c l) (aX o) n) : Nat) : Int)) < -1200), false), (decide ((sumI E ((bl (vO (hX neg E o n c l) (aX o) n) : Nat) : Int)) > 1100), false), (okLen (hX neg E o n c l) (aX o) n c, true), ((n : Int) == 0, false)] := ⟨by kernel_rfl, by kernel_rfl, by kernel_rfl⟩
def hLo (neg : Bool) (l : List Value) : Hp := ⟨3, [(wU (d16 1), tU), bOf neg (-1300) (sOf 2 1), (l, tR)]⟩
theorem ro_low (neg : Bool) (E m : Int) (o n c : Nat) (l : List Value) (g : Nat → Value) : GoesT (evL (tabH Tryz.prog extY conQ hcQ) 200 (rS2 Tryz.f52) ([vRN neg E (sl 0 o n c), .int .i64 m, .pointer (some ⟨1, 0, none⟩), undef, .int .u64 0, .int .i64 0] ++ tl 103 g, (hX neg E o n c l), [cmp false, cmp false, cmp true]) ⟨[], [], []⟩) 7 102 none [vRN neg E (sl 0 o n c), .int .i64 m, .pointer (some ⟨1, 0, none⟩), undef, .int .u64 0, .int .i64 0, .int .i64 (-1299)] (hLo neg l) [okOne1, okOne1, (decide ((sumI E ((bl (vO (hX neg E o n c l) (aX o) n) : Nat) : Int)) < -1200), true), (decide ((sumI E ((bl (vO (hX neg E o n c l) (aX o) n) : Nat) : Int)) > 1100), false), (okLen (hX neg E o n c l) (aX o) n c, true), ((n : Int) == 0, false)] := ⟨by kernel_rfl, by kernel_rfl, by kernel_rfl⟩
end Go.Proofs.YtjkgnbdeklploaaGreatDoor
