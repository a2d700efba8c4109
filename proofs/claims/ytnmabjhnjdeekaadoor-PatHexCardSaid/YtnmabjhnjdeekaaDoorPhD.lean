/-
  The document's Parse (tillerref03), as a call: the number of any digits, or the error's number.
-/
import Derived.Test.YtnmabjhnjdeekaaDoorPhC
import Derived.Laws.Closers25b
namespace Go.Proofs.YtnmabjhnjdeekaaDoor
open Go.KRun
set_option maxRecDepth 100000
set_option linter.unusedVariables false

def vRp (s : ByteArray) (d : Bool) : Value := if d = true then .tuple #[.int .u64 (phN s s.size), .int .i64 0] else .tuple #[.int .u64 0, .int .i64 3]
def q0 (F : Func) : Code := cFst (cBody F)
def q1 (F : Func) : Code := cFst (cSnd (cBody F))
def q2 (F : Func) : Code := cFst (cSnd (cSnd (cBody F)))
def q4 (F : Func) : Code := cFst (cFst (cSnd (cSnd (cSnd (cBody F)))))
theorem qB_is : cBody Tryd.f5 = seqs [q0 Tryd.f5, q1 Tryd.f5, q2 Tryd.f5] (.seq (.seq (q4 Tryd.f5) (.block 0 (.loop (qLp Tryd.f5)))) (qFn Tryd.f5)) := by kernel_rfl
def q5 (s : ByteArray) : List Value := [.string s, .tuple #[], .int .u64 0, .int .i64 0, .int .u64 0]
theorem q_hd (s : ByteArray) : GoesT (evL tabPh 300 [q0 Tryd.f5, q1 Tryd.f5, q2 Tryd.f5] ([.string s] ++ List.replicate 39 undef, ⟨0, []⟩, [sam false, cmp false]) ⟨[], [], []⟩) 5 35 none (q5 s) ⟨0, []⟩ [(decide ((s.size : Int) > 16), false), (s == ⟨#[]⟩, false)] := ⟨by kernel_rfl, by kernel_rfl, by kernel_rfl⟩
theorem q_r4 (s : ByteArray) (g : Nat → Value) : GoesT (evC tabPh 300 false (q4 Tryd.f5) (q5 s ++ tl 35 g, ⟨0, []⟩, []) ⟨[], [], []⟩) 8 32 none (qF s 0 0 (g 1) (g 2) (.int .u64 0) (.int .i64 0)) ⟨0, []⟩ [] := ⟨by kernel_rfl, by kernel_rfl, by kernel_rfl⟩
theorem q_e (s : ByteArray) : Fits (reckon tabPh 300 5 [.string s] [sam true]) (.tuple #[.int .u64 0, .int .i64 3]) [(s == ⟨#[]⟩, true)] := ⟨by kernel_rfl, by kernel_rfl, by kernel_rfl, by kernel_rfl⟩
theorem q_l (s : ByteArray) : Fits (reckon tabPh 300 5 [.string s] [sam false, cmp true]) (.tuple #[.int .u64 0, .int .i64 3]) [(decide ((s.size : Int) > 16), true), (s == ⟨#[]⟩, false)] := ⟨by kernel_rfl, by kernel_rfl, by kernel_rfl, by kernel_rfl⟩
theorem beq_empty (s : ByteArray) : (s == ⟨#[]⟩) = decide (s.size = 0) := by
  by_cases h : s.size = 0
  · have e : s = ⟨#[]⟩ := by
      apply ByteArray.ext
      exact Array.eq_empty_of_size_eq_zero h
    rw [decide_eq_true h, e]
    rfl
  · rw [decide_eq_false h, beq_toListBytes]
    simp only [beq_eq_false_iff_ne, ne_eq]
    intro hc
    have e0 : (⟨#[]⟩ : ByteArray).toList = [] := (toList_nil_iff_emptyBytes _).2 rfl
    rw [e0] at hc
    have := (toList_nil_iff_emptyBytes s).1 hc
    rw [this] at h
    exact h rfl
theorem q_loop {s : ByteArray} (hs : s.size ≤ 16) (d e u v : Value) (g : Nat → Value) :
    RunsW tabPh (.block 0 (.loop (qLp Tryd.f5))) (qF s 0 0 d e u v ++ tl 32 g, ⟨0, []⟩, []) fun x z => z.2.1 = ⟨0, []⟩ ∧ match x with
      | none => phA s s.size ∧ ∃ i d e g, z.1 = qF s (phN s s.size) i d e u v ++ tl 32 g
      | some none => ¬ phA s s.size ∧ ∃ g, z.1 = [.string s, .tuple #[], .int .u64 0, .int .i64 3] ++ tl 36 g
      | some (some _) => False := by
  refine (RunsW.forLoop (P := fun z => z.2.1 = ⟨0, []⟩ ∧ phA s s.size ∧ ∃ i d e g, z.1 = qF s (phN s s.size) i d e u v ++ tl 32 g)
    (R := fun z => z.2.1 = ⟨0, []⟩ ∧ ¬ phA s s.size ∧ ∃ g, z.1 = [.string s, .tuple #[], .int .u64 0, .int .i64 3] ++ tl 36 g)
    (fun n z => ∃ q : Nat, n + q = s.size ∧ phA s q ∧ z.2.1 = ⟨0, []⟩ ∧ ∃ d e g, z.1 = qF s (phN s q) (q : Nat) d e u v ++ tl 32 g) ?_ (n := s.size) ⟨0, by omega, fun j hj => by omega, rfl, d, e, g, rfl⟩).mono fun x z he => ?_
  · rintro n ⟨t, h', sc⟩ ⟨q, hn, hA, hh, d, e, g, ht⟩
    simp only at hh ht
    subst hh ht
    by_cases hq : q < s.size
    · by_cases hk : hxOk (byI s q) = true
      · refine RunsW.script ((q_good s (phN s q) q d e u v g hq hk).mono fun x z he => ?_)
        obtain ⟨rfl, ⟨g1, e2⟩, e3⟩ := he
        have hb := phN_lt s q
        have hv := hxV_lt (byI s q)
        have hp : (16 : Int) ^ q ≤ 1152921504606846976 := pow16 (by omega)
        have e4 : qNx (phN s q) (hxV (byI s q)) = phN s (q + 1) := by
          simp only [qNx, phN]
          have e5 : IntKind.u64.wrap (16 * phN s q) = 16 * phN s q := by simp [IntKind.wrap, IntKind.bits, IntKind.signed]; omega
          rw [e5]
          simp [IntKind.wrap, IntKind.bits, IntKind.signed]
          omega
        have e6 : IntKind.i64.wrap ((q : Nat) + 1) = ((q + 1 : Nat) : Int) := by
          rw [wrapI (by omega) (by omega)]
          rfl
        rw [e4, e6] at e2
        refine ⟨n - 1, by omega, q + 1, by omega, ?_, e3, _, _, g1, e2⟩
        intro j hj
        by_cases hj' : j = q
        · rw [hj']; exact hk
        · exact hA j (by omega)
      · have hk' : hxOk (byI s q) = false := by simpa using hk
        refine RunsW.script ((q_none s (phN s q) q d e u v g hq hk').mono fun x z he => ?_)
        obtain ⟨rfl, ⟨g1, e2⟩, e3⟩ := he
        exact ⟨e3, fun hall => hk (hall q hq), g1, e2⟩
    · have hqs : q = s.size := by omega
      refine (goesT_runsW tabPh_ok (q_nx s (phN s q) (q : Nat) d e u v g) (okL1 (decide_eq_false (by omega)))).mono fun x z he => ?_
      obtain ⟨rfl, ⟨g1, e2⟩, e3⟩ := he
      rw [hqs] at e2 hA
      exact ⟨rfl, e3, hA, _, d, e, g1, e2⟩
  · match x, he with
    | none, he => exact he
    | some none, he => exact he
theorem q_mid {s : ByteArray} (h1 : 1 ≤ s.size) (h2 : s.size ≤ 16) {d : Bool} (hd : phA s s.size ↔ d = true) :
    RunsW tabPh (cBody Tryd.f5) ([.string s] ++ List.replicate 39 undef, ⟨0, []⟩, []) fun e y => (e = none ∨ e = some none) ∧ resS Tryd.prog Tryd.f5 y.1 y.2.1 = some (vRp s d) := by
  rw [qB_is]
  refine goesT_listW tabPh_ok (q_hd s) (okCons (decide_eq_false (by omega)) (okL1 (by rw [beq_empty]; exact decide_eq_false (by omega)))) fun g => ?_
  refine RunsW.seq (P1 := fun x z => z.2.1 = ⟨0, []⟩ ∧ match x with
      | none => phA s s.size ∧ ∃ i d e g, z.1 = qF s (phN s s.size) i d e (.int .u64 0) (.int .i64 0) ++ tl 32 g
      | some none => ¬ phA s s.size ∧ ∃ g, z.1 = [.string s, .tuple #[], .int .u64 0, .int .i64 3] ++ tl 36 g
      | some (some _) => False) ?_ ?_ ?_
  · refine RunsW.seq (goesT_runsW tabPh_ok (q_r4 s g) (fun x hx => by cases hx)) ?_ (fun e y he => by cases he.1)
    rintro ⟨t, h', sc⟩ ⟨_, ⟨g1, ht⟩, hh⟩
    simp only at hh ht
    subst hh ht
    exact RunsW.script (q_loop h2 _ _ _ _ g1)
  · rintro ⟨t, h', sc⟩ ⟨hh, hA, i, d', e', g1, ht⟩
    simp only at hh ht
    subst hh ht
    refine (goesT_runsW tabPh_ok (q_fn s (phN s s.size) i d' e' _ _ g1) (fun x hx => by cases hx)).mono fun e z he => ?_
    obtain ⟨rfl, ⟨g2, e2⟩, e3⟩ := he
    refine ⟨.inr rfl, ?_⟩
    unfold vRp
    rw [e2, e3, if_pos (hd.1 hA)]
    rfl
  · rintro e ⟨t, h', sc⟩ ⟨hh, hc⟩
    match e, hc with
    | none, hc =>
      obtain ⟨hA, g1, ht⟩ := hc
      simp only at hh ht
      subst hh ht
      refine ⟨.inr rfl, ?_⟩
      unfold vRp
      rw [if_neg (fun h => hA (hd.2 h))]
      rfl
open Classical in
theorem refParse_calls (s : ByteArray) (w : World) : Calls Tryd.prog 5 #[.string s] w fun e w' => e = .returned (vRp s (decide (phOk s))) ∧ Tidy w w' := by
  have nn : ¬ phOk s → vRp s (decide (phOk s)) = .tuple #[.int .u64 0, .int .i64 3] := fun h => by
    unfold vRp
    rw [decide_eq_false h]
    rfl
  by_cases h1 : s.size = 0
  · rw [nn (fun h => by have := h.1; omega)]
    exact fits_calls tabPh_ok (q_e s) (okL1 (by rw [beq_empty]; exact decide_eq_true h1)) (by rfl) (by rfl) w
  · by_cases h2 : (s.size : Int) > 16
    · rw [nn (fun h => by have := h.1; omega)]
      exact fits_calls tabPh_ok (q_l s) (okCons (decide_eq_true h2) (okL1 (by rw [beq_empty]; exact decide_eq_false h1))) (by rfl) (by rfl) w
    · refine calls_of_runsW (T := tabPh) (c := cBody Tryd.f5) (vals := [.string s]) Tryd.func5 (by kernel_rfl) (by rfl) ?_ ?_ w
      · unfold vRp
        split <;> rfl
      · exact q_mid (by omega) (by omega) (by unfold phOk; simp only [decide_eq_true_eq]; exact ⟨fun h => ⟨by omega, h⟩, fun h => h.2⟩)
end Go.Proofs.YtnmabjhnjdeekaaDoor
