/-
  PLAIN ARITHMETIC: what is left beyond a multiple, by its first bit and whether there is more; how many bits, told in two ways; far away all is the same.
-/
import Derived.Test.YtecaahiajbkioaaG15
import Derived.Test.YtecaahiajbkioaaG12
import Derived.Test.YtecaahiajbkioaaG17
import Derived.Test.YtecaahiajbkioaaG01
namespace Go.Rn
open Go.Nt

theorem bl_bitLen (V : Nat) : bl V = bitLen V := by
  by_cases h : V = 0
  · subst h; rw [bl_zero]; rfl
  · have h1 := (bitLen_spec V).1
    have h2 := (bitLen_spec V).2 h
    have h3 := len_pos h
    obtain ⟨k, hk⟩ : ∃ k, bitLen V = k + 1 := ⟨bitLen V - 1, by omega⟩
    rw [hk] at h1 h2 ⊢
    exact bl_uniq h2 h1
theorem half_iff (T k : Nat) : (T / 2 ^ k % 2 = 1) ↔ 2 ^ k ≤ T % 2 ^ (k + 1) := by
  have hp : 0 < 2 ^ k := Nat.pow_pos (by omega)
  have e : T % 2 ^ (k + 1) = T % 2 ^ k + 2 ^ k * (T / 2 ^ k % 2) := by rw [Nat.pow_succ, Nat.mod_mul]
  have hl := Nat.mod_lt T hp
  have h2 : T / 2 ^ k % 2 = 0 ∨ T / 2 ^ k % 2 = 1 := by omega
  rw [e]
  clear e
  generalize T % 2 ^ k = r at hl
  generalize T / 2 ^ k % 2 = b at h2
  generalize 2 ^ k = P at hl hp
  rcases h2 with h | h
  · subst h
    simp only [Nat.mul_zero, Nat.add_zero]
    omega
  · subst h
    rw [Nat.mul_one]
    exact ⟨fun _ => Nat.le_add_left _ _, fun _ => rfl⟩
/-- the document's way to round: half, and just half -/
theorem up_doc {r k : Nat} (hr : r ≠ 0) (M : Int) (neg o : Bool) :
    upR M neg o (restC r (2 ^ (k + 1))) = (if M = 2 then false else if M = 3 then !neg else if M = 4 then neg else if M = 1 then decide (2 ^ k ≤ r) else (decide (2 ^ k ≤ r) && (!decide (r = 2 ^ k) || o))) := by
  have hc : ¬ restC r (2 ^ (k + 1)) = 0 := by rw [restC_iff]; exact hr
  unfold upR
  rw [if_neg hc]
  by_cases h2 : M = 2
  · rw [if_pos h2, if_pos h2]
  · rw [if_neg h2, if_neg h2]
    by_cases h3 : M = 3
    · rw [if_pos h3, if_pos h3]
    · rw [if_neg h3, if_neg h3]
      by_cases h4 : M = 4
      · rw [if_pos h4, if_pos h4]
      · rw [if_neg h4, if_neg h4]
        have e : 2 ^ (k + 1) = 2 * 2 ^ k := by rw [Nat.pow_succ, Nat.mul_comm]
        unfold restC
        rw [if_neg hr, e]
        generalize 2 ^ k = P
        by_cases a : 2 * r < 2 * P
        · rw [if_pos a]
          have : decide (P ≤ r) = false := decide_eq_false (by omega)
          rw [this]
          split <;> simp
        · rw [if_neg a]
          by_cases b : 2 * r = 2 * P
          · rw [if_pos b]
            have h1 : decide (P ≤ r) = true := decide_eq_true (by omega)
            have h5 : decide (r = P) = true := decide_eq_true (by omega)
            rw [h1, h5]
            split <;> simp
          · rw [if_neg b]
            have h1 : decide (P ≤ r) = true := decide_eq_true (by omega)
            have h5 : decide (r = P) = false := decide_eq_false (by omega)
            rw [h1, h5]
            split <;> simp
end Go.Rn

/-
  The document's To (tillerref04), as a call: where something is left over.
-/
namespace Go.Proofs.Ytecaahiajbkioaa
open Go.KRun Go.Nt Go.Wd Go.Rn
set_option maxRecDepth 100000
set_option linter.unusedVariables false

section
variable {l : List Value} {o c : Nat} {A : List Int}
theorem vO_fst (hF : Fst l o c A) {h : Hp} (hh : h.blk? 0 = some (l, tR)) : vO h (aX o) A.length = vb 65536 A := by
  unfold vO aX
  rw [(hF h hh).2]
theorem okLen_fst (hF : Fst l o c A) (hC : Canon 65536 A) (hn : A.length < 1073741824) {h : Hp} (hh : h.blk? 0 = some (l, tR)) : okLen h (aX o) A.length c = true := by
  unfold okLen aX
  rw [(hF h hh).1, (hF h hh).2, canB_mk hC, blt_iff.2 hn]
  rfl
theorem okShl_d16 {h : Hp} {b A : Nat} {k : Int} (hb : h.blk? b = some (wU (d16 A), tU)) (hk : 0 ≤ k) (hl : k.toNat / 16 + (d16 A).length + 3 < 1073741824) : okShl h (some ⟨b, 0, none⟩) (d16 A).length (d16 A).length k = true := by
  unfold okShl
  rw [rowP_d16 hb (by omega), dgB_d16 hb, blt_iff.2 hl, decide_eq_true hk]
  rfl
theorem two_fst (hF : Fst l o c A) (hC : Canon 65536 A) (hn : A.length < 1073741800) {h : Hp} (hh : h.blk? 0 = some (l, tR)) {b V : Nat} (hb : h.blk? b = some (wU (d16 V), tU)) (hl : (d16 V).length < 1073741800) : two16 h (aX o) (some ⟨b, 0, none⟩) A.length c (d16 V).length (d16 V).length = true := by
  unfold two16 aX
  rw [(hF h hh).1, (hF h hh).2, dgB_mk hC.1, rowP_d16 hb (by omega), dgB_d16 hb, blt_iff.2 (by omega)]
  rfl
theorem two_fst0 (hF : Fst l o c A) (hC : Canon 65536 A) (hn : A.length < 1073741800) {h : Hp} (hh : h.blk? 0 = some (l, tR)) : two16 h (aX o) none A.length c 0 0 = true := by
  unfold two16 aX
  rw [(hF h hh).1, (hF h hh).2, dgB_mk hC.1, blt_iff.2 (by omega)]
  rfl
/-- the front of To, as far as its second piece -/
def fT (neg : Bool) (E N M : Int) (o n c : Nat) (b : Int) (Q : Value) : List Value := [vRN neg E (sl 0 o n c), .int .i64 N, .int .i64 M, .pointer (some ⟨1, 0, none⟩), undef, undef, nilS, .bool false, .int .i64 b, Q]
def hS (s : Bool) (neg : Bool) (E : Int) (o n c : Nat) (l : List Value) (q : Nat) : Hp := match s with | true => hQ neg E o n c l q | false => hX neg E o n c l
def qS (s : Bool) (q : Nat) : Value := match s with | true => sOf 2 q | false => nilS
/-- To's last piece: one more, or not -/
theorem to_last (s : Bool) {neg : Bool} {E N M : Int} {q : Nat} {half just u : Bool} {b : Int} {J : Value} (hq : (d16 q).length < 1073741800) (hq0 : s = false → q = 0) (g : Nat → Value) :
    RunsW (tabH Try.prog extY conN hcW) (tS5 Try.f51) (fT neg E N M o A.length c b (qS s q) ++ [.bool true, .bool half, J, .bool just, .bool u] ++ tl 91 g, hS s neg E o A.length c l q, []) fun ex z => (ex = none ∨ ex = some none) ∧
      ((s = true ∨ u = true) → ∃ k, resS Try.prog Try.f51 z.1 z.2.1 = some (.tuple #[sOf k (q + (if u = true then 1 else 0)), .bool true]) ∧ ∃ r, z.2.1.blk? k = some (wU (d16 (q + (if u = true then 1 else 0))) ++ r, tU)) ∧
      ((s = false ∧ u = false) → resS Try.prog Try.f51 z.1 z.2.1 = some (.tuple #[nilS, .bool true])) := by
  cases s with
  | true =>
    cases u with
    | true =>
      have e1 : vO (nxt (hQ neg E o A.length c l q) 1) (some ⟨2, 0, none⟩) (d16 q).length + vO (nxt (hQ neg E o A.length c l q) 1) (some ⟨3, 0, none⟩) (d16 1).length = q + 1 := by
        rw [vO_d16 (A := q) (ty := tU) rfl, vO_d16 (A := 1) (ty := tU) rfl]
      refine (goesT_runsW (tabH_ok conN_ok hcW_ok) (to_grT neg half just E N M b o A.length c q l J g) (okTwo (two_d16 (A := q) (A' := 1) rfl rfl hq (by rw [d16_one]; omega)) (okTwo (decide_eq_true (.inr (by rw [d16_one]; omega))) (okOne (by decide))))).mono fun ex z hz => ?_
      rw [e1] at hz
      obtain ⟨rfl, ⟨g', z1⟩, z2⟩ := hz
      refine ⟨.inr rfl, fun _ => ⟨4, ?_, [], ?_⟩, fun h => by cases h.1⟩
      · rw [z1, z2]; rfl
      · rw [z2, List.append_nil]; rfl
    | false =>
      refine (goesT_runsW (tabH_ok conN_ok hcW_ok) (to_grF neg half just E N M b o A.length c q l J g) (fun x hx => by cases hx)).mono fun ex z hz => ?_
      obtain ⟨rfl, ⟨g', z1⟩, z2⟩ := hz
      refine ⟨.inr rfl, fun _ => ⟨2, ?_, [], ?_⟩, fun h => by cases h.1⟩
      · rw [z1, z2]; rfl
      · rw [z2, List.append_nil]; rfl
  | false =>
    have hq1 := hq0 rfl
    subst hq1
    cases u with
    | true =>
      have e1 : vO (nxt (hX neg E o A.length c l) 1) none 0 + vO (nxt (hX neg E o A.length c l) 1) (some ⟨2, 0, none⟩) (d16 1).length = 0 + 1 := by
        rw [vO_nil, vO_d16 (A := 1) (ty := tU) rfl]
      refine (goesT_runsW (tabH_ok conN_ok hcW_ok) (to_gnT neg half just E N M b o A.length c 0 l J g) (okTwo (two_nil (A := 1) rfl (by rw [d16_one]; omega)) (okTwo (decide_eq_true (.inr (by rw [d16_one]; omega))) (okOne (by decide))))).mono fun ex z hz => ?_
      rw [e1] at hz
      obtain ⟨rfl, ⟨g', z1⟩, z2⟩ := hz
      refine ⟨.inr rfl, fun _ => ⟨3, ?_, [], ?_⟩, fun h => by cases h.2⟩
      · rw [z1, z2]; rfl
      · rw [z2, List.append_nil]; rfl
    | false =>
      refine (goesT_runsW (tabH_ok conN_ok hcW_ok) (to_gnF neg half just E N M b o A.length c 0 l J g) (fun x hx => by cases hx)).mono fun ex z hz => ?_
      obtain ⟨rfl, ⟨g', z1⟩, z2⟩ := hz
      refine ⟨.inr rfl, (fun h => by rcases h with h | h <;> cases h), fun _ => ?_⟩
      rw [z1, z2]; rfl
/-- by the mode -/
def upM (M : Int) (neg half ev : Bool) : Bool := if M = 2 then false else if M = 3 then !neg else if M = 4 then neg else if M = 1 then half else ev
theorem to_mode (s : Bool) {neg : Bool} {E N M : Int} {n q : Nat} {half just u : Bool} {b : Int} {J : Value} (g : Nat → Value) :
    RunsW (tabH Try.prog extY conN hcW) (tS4 Try.f51) (fT neg E N M o n c b (qS s q) ++ [.bool true, .bool half, J, .bool just, .bool u] ++ tl 91 g, hS s neg E o n c l q, []) fun ex z => ex = none ∧ (∃ g, z.1 = fT neg E N M o n c b (qS s q) ++ [.bool true, .bool half, J, .bool just, .bool (upM M neg half u)] ++ tl 91 g) ∧ z.2.1 = hS s neg E o n c l q := by
  unfold upM
  by_cases h1 : M = 1
  · have n2 : ¬ M = 2 := by omega
    have n3 : ¬ M = 3 := by omega
    have n4 : ¬ M = 4 := by omega
    rw [if_neg n2, if_neg n3, if_neg n4, if_pos h1]
    cases s with
    | true => exact goesT_runsW (tabH_ok conN_ok hcW_ok) (to_mr1 neg half just u E N M b o n c q l J g) (okOne (by rw [h1]; rfl))
    | false => exact goesT_runsW (tabH_ok conN_ok hcW_ok) (to_mn1 neg half just u E N M b o n c q l J g) (okOne (by rw [h1]; rfl))
  · have b1 : (M == 1) = false := by simp [h1]
    by_cases h2 : M = 2
    · rw [if_pos h2]
      cases s with
      | true => exact goesT_runsW (tabH_ok conN_ok hcW_ok) (to_mr2 neg half just u E N M b o n c q l J g) (okTwo (by rw [h2]; rfl) (okOne b1))
      | false => exact goesT_runsW (tabH_ok conN_ok hcW_ok) (to_mn2 neg half just u E N M b o n c q l J g) (okTwo (by rw [h2]; rfl) (okOne b1))
    · have b2 : (M == 2) = false := by simp [h2]
      rw [if_neg h2]
      by_cases h3 : M = 3
      · rw [if_pos h3]
        cases s with
        | true => exact goesT_runsW (tabH_ok conN_ok hcW_ok) (to_mr3 neg half just u E N M b o n c q l J g) (okTwo (by rw [h3]; rfl) (okTwo b2 (okOne b1)))
        | false => exact goesT_runsW (tabH_ok conN_ok hcW_ok) (to_mn3 neg half just u E N M b o n c q l J g) (okTwo (by rw [h3]; rfl) (okTwo b2 (okOne b1)))
      · have b3 : (M == 3) = false := by simp [h3]
        rw [if_neg h3]
        by_cases h4 : M = 4
        · rw [if_pos h4]
          cases s with
          | true => exact goesT_runsW (tabH_ok conN_ok hcW_ok) (to_mr4 neg half just u E N M b o n c q l J g) (okTwo (by rw [h4]; rfl) (okTwo b3 (okTwo b2 (okOne b1))))
          | false => exact goesT_runsW (tabH_ok conN_ok hcW_ok) (to_mn4 neg half just u E N M b o n c q l J g) (okTwo (by rw [h4]; rfl) (okTwo b3 (okTwo b2 (okOne b1))))
        · have b4 : (M == 4) = false := by simp [h4]
          rw [if_neg h4, if_neg h1]
          cases s with
          | true => exact goesT_runsW (tabH_ok conN_ok hcW_ok) (to_mr0 neg half just u E N M b o n c q l J g) (okTwo b4 (okTwo b3 (okTwo b2 (okOne b1))))
          | false => exact goesT_runsW (tabH_ok conN_ok hcW_ok) (to_mn0 neg half just u E N M b o n c q l J g) (okTwo b4 (okTwo b3 (okTwo b2 (okOne b1))))
/-- whether the even one is above: the third piece -/
theorem to_even (s : Bool) {neg : Bool} {E N M : Int} {n q : Nat} {half just : Bool} {b : Int} {J : Value} (hq0 : s = false → q = 0) (hj : half = false → just = false) (g : Nat → Value) :
    RunsW (tabH Try.prog extY conN hcW) (tS3 Try.f51) (fT neg E N M o n c b (qS s q) ++ [.bool true, .bool half, J, .bool just] ++ tl 92 g, hS s neg E o n c l q, []) fun ex z => ex = none ∧ (∃ g, z.1 = fT neg E N M o n c b (qS s q) ++ [.bool true, .bool half, J, .bool just, .bool (half && (!just || odd q))] ++ tl 91 g) ∧ z.2.1 = hS s neg E o n c l q := by
  cases half with
  | false =>
    have := hj rfl
    subst this
    cases s with
    | true => exact goesT_runsW (tabH_ok conN_ok hcW_ok) (to_urF neg false E N M b 0 o n c q l J g) (fun x hx => by cases hx)
    | false => exact goesT_runsW (tabH_ok conN_ok hcW_ok) (to_unF neg false E N M b 0 o n c q l J g) (fun x hx => by cases hx)
  | true =>
    cases just with
    | false =>
      cases s with
      | true => exact goesT_runsW (tabH_ok conN_ok hcW_ok) (to_urTF neg false E N M b 0 o n c q l J g) (fun x hx => by cases hx)
      | false => exact goesT_runsW (tabH_ok conN_ok hcW_ok) (to_unTF neg false E N M b 0 o n c q l J g) (fun x hx => by cases hx)
    | true =>
      simp only [Bool.true_and, Bool.not_true, Bool.false_or]
      cases s with
      | true =>
        by_cases hl : 0 < (d16 q).length
        · have hne := d16_pos hl
          have hd : d16 q = ((q % 65536 : Nat) : Int) :: db 65536 (q / 65536) := db_pos (by omega) hne
          have ho : (((q % 65536 : Nat) : Int).tmod 2 == 1) = odd q := by
            unfold odd
            rw [Int.tmod_eq_emod_of_nonneg (by omega), Bool.eq_iff_iff]
            simp only [beq_iff_eq, decide_eq_true_eq]
            omega
          have hcell : cellIs ((wU (d16 q))[0]?) (.int .u32 ((q % 65536 : Nat) : Int)) = true := by
            rw [hd]
            simp [wU, cellIs]
          exact goesT_runsW (tabH_ok conN_ok hcW_ok) (to_urTT neg (odd q) E N M b ((q % 65536 : Nat) : Int) o n c q l J g) (okTwo ho (okTwo rfl (okTwo hcell (okTwo (decide_eq_true ⟨by omega, by omega⟩) (okOne (decide_eq_true (by omega)))))))
        · have h0 := d16_zero hl
          have ho : odd q = false := by rw [h0]; rfl
          rw [ho]
          exact goesT_runsW (tabH_ok conN_ok hcW_ok) (to_urTT0 neg false E N M b 0 o n c q l J g) (okOne (decide_eq_false (by omega)))
      | false =>
        have ho : odd q = false := by rw [hq0 rfl]; rfl
        rw [ho]
        exact goesT_runsW (tabH_ok conN_ok hcW_ok) (to_unTT0 neg false E N M b 0 o n c q l J g) (okOne rfl)
end
end Go.Proofs.Ytecaahiajbkioaa

/-
  Logs, entry by entry.
-/
namespace Go.Proofs.Ytecaahiajbkioaa
open Go.KRun

theorem okL1 {a b : Bool} (h : a = b) : okLog [(a, b)] := fun p hp => by rw [List.mem_singleton.1 hp]; exact h
theorem okCons {a b : Bool} {l : Log} (h : a = b) (hl : okLog l) : okLog ((a, b) :: l) := fun p hp => by
  rcases List.mem_cons.1 hp with rfl | hp
  · exact h
  · exact hl p hp
theorem okCs {a b : Bool} {l : Log} : okLog ((a, b) :: l) ↔ a = b ∧ okLog l := ⟨fun h => ⟨h _ (List.mem_cons_self), fun x hx => h x (List.mem_cons_of_mem _ hx)⟩, fun h => okCons h.1 h.2⟩
theorem okNl : okLog [] := fun x hx => by cases hx
end Go.Proofs.Ytecaahiajbkioaa
