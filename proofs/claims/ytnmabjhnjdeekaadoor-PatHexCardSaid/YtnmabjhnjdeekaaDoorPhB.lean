/-
  pat.Parse, as a contract: the pattern of any digits, or the error.
-/
import Derived.Test.YtnmabjhnjdeekaaDoorPhA
import Derived.Laws.RangeAny
namespace Go.Proofs.YtnmabjhnjdeekaaDoor
open Go.KRun
set_option maxRecDepth 100000
set_option linter.unusedVariables false

/-- the letter at k, as a number -/
def byI (s : ByteArray) (k : Nat) : Int := ((s.get! k).toNat : Nat)
/-- what the first k digits stand for -/
def phN (s : ByteArray) : Nat → Int
  | 0 => 0
  | k + 1 => 16 * phN s k + hxV (byI s k)
/-- the first k letters are digits -/
def phA (s : ByteArray) (k : Nat) : Prop := ∀ j, j < k → hxOk (byI s j) = true
theorem phN_lt (s : ByteArray) (k : Nat) : 0 ≤ phN s k ∧ phN s k < 16 ^ k := by
  induction k with
  | zero => exact ⟨by simp [phN], by simp [phN]⟩
  | succ k ih =>
    have := hxV_lt (byI s k)
    simp only [phN, Int.pow_succ]
    omega
theorem pow16 {q : Nat} (h : q ≤ 15) : (16 : Int) ^ q ≤ 1152921504606846976 := by
  have h1 : 16 ^ q ≤ 16 ^ 15 := Nat.pow_le_pow_right (by omega) h
  have h2 : (16 : Nat) ^ 15 = 1152921504606846976 := rfl
  have h3 : ((16 ^ q : Nat) : Int) = (16 : Int) ^ q := by simp
  omega
theorem shl_or {P v : Int} (h0 : 0 ≤ P) (h1 : P < 1152921504606846976) (v0 : 0 ≤ v) (v1 : v < 16) :
    IntKind.u64.wrap ↑(BitVec.ofInt 64 (IntKind.u64.wrap (P * 2 ^ min (Int.toNat 4) 64)) ||| BitVec.ofInt 64 v).toNat = 16 * P + v := by
  have e0 : (2 : Int) ^ min (Int.toNat 4) 64 = 16 := rfl
  have e1 : IntKind.u64.wrap (P * 16) = P * 16 := by simp [IntKind.wrap, IntKind.bits, IntKind.signed]; omega
  obtain ⟨p, rfl⟩ := Int.eq_ofNat_of_zero_le h0
  obtain ⟨u, rfl⟩ := Int.eq_ofNat_of_zero_le v0
  have e2 : (BitVec.ofInt 64 ((p : Int) * 16)).toNat = 2 ^ 4 * p := by
    rw [BitVec.toNat_ofInt]
    omega
  have e3 : (BitVec.ofInt 64 (u : Int)).toNat = u := by
    rw [BitVec.toNat_ofInt]
    omega
  rw [e0, e1, BitVec.toNat_or, e2, e3, ← Nat.two_pow_add_eq_or_of_lt (by omega) p]
  simp [IntKind.wrap, IntKind.bits, IntKind.signed]
  omega
def rOps : Code → Array Oper
  | .region _ ops _ => ops
  | _ => #[]
def opAt (c : Code) (k : Nat) : Oper := ((rOps c)[k]?).getD ⟨none, .move (.tmp 0), 0, "", #[], none⟩
def pR5 (F : Func) : Code := cFst (cIn (cIn (pLp F)))
theorem pLp_is : pLp Tryd.f4 = .block 0 (.loop (.seq (.region 5 #[opAt (pR5 Tryd.f4) 0, opAt (pR5 Tryd.f4) 1] false) (pBd Tryd.f4))) := by kernel_rfl
theorem pR4_is : pR4 Tryd.f4 = .region 4 #[opAt (pR4 Tryd.f4) 0, opAt (pR4 Tryd.f4) 1] false := by kernel_rfl
theorem pB_is : cBody Tryd.f4 = seqs [pR0 Tryd.f4, pR1 Tryd.f4, pR3 Tryd.f4] (.seq (.seq (pR4 Tryd.f4) (pLp Tryd.f4)) (pFn Tryd.f4)) := by kernel_rfl
theorem get_by {s : ByteArray} {p : Nat} (h : p < s.size) : byI s p = ((s[p]'h).toNat : Nat) := by
  unfold byI
  have e : s.get! p = s[p]'h := by
    simp [ByteArray.get!, getElem!_pos, h]
    rfl
  rw [e]
/-- a letter is a digit just where its rune is one; then it is one byte long -/
theorem rune_by {s : ByteArray} {p : Nat} (h : p < s.size) : hxOk (((Utf8.decode s p).1 : Nat) : Int) = hxOk (byI s p) ∧ (hxOk (byI s p) = true → (Utf8.decode s p).2 = 1 ∧ (((Utf8.decode s p).1 : Nat) : Int) = byI s p) := by
  by_cases ha : (s[p]'h).toNat < 128
  · rw [decode_ascii s p h ha, get_by h]
    exact ⟨rfl, fun _ => ⟨rfl, rfl⟩⟩
  · have hd := (decode_high s p h (by omega)).1
    have e1 : hxOk (byI s p) = false := by
      rw [get_by h]
      exact decide_eq_false (by omega)
    refine ⟨?_, fun h' => by rw [e1] at h'; cases h'⟩
    rw [e1]
    exact decide_eq_false (by omega)
theorem p_loop {s : ByteArray} (hs : s.size ≤ 16) (r : Nat) (a g : Nat → Value) (x y : Value) :
    RunsI tabPh (pLp Tryd.f4) r s 0 (pF s 0 a ++ [itR r, x, y] ++ tl 14 g, hT1, []) fun e z _ => z.2.1 = hT1 ∧ match e with
      | none => phA s s.size ∧ ∃ a g, z.1 = pF s (phN s s.size) a ++ tl 17 g
      | some none => ¬ phA s s.size ∧ ∃ u g, z.1 = [.string s, u, .int .u64 0, .iface 33 (.int .i64 3)] ++ tl 32 g
      | some (some _) => False := by
  rw [pLp_is]
  refine (RunsI.forLoop (P := fun z _ => z.2.1 = hT1 ∧ phA s s.size ∧ ∃ a g, z.1 = pF s (phN s s.size) a ++ tl 17 g)
    (R := fun z _ => z.2.1 = hT1 ∧ ¬ phA s s.size ∧ ∃ u g, z.1 = [.string s, u, .int .u64 0, .iface 33 (.int .i64 3)] ++ tl 32 g)
    (fun n z q => n + q = s.size ∧ phA s q ∧ z.2.1 = hT1 ∧ ∃ a x y g, z.1 = pF s (phN s q) a ++ [itR r, x, y] ++ tl 14 g) ?_ (n := s.size) ⟨by omega, fun j hj => by omega, rfl, a, x, y, g, rfl⟩).mono fun e z q he => ?_
  · rintro n ⟨t, h', sc⟩ q ⟨hn, hA, hh, a, x, y, g, ht⟩
    simp only at hh ht
    subst hh ht
    refine RunsI.seq (RunsI.step (j := 19) (d1 := 20) (d2 := 21) (by kernel_rfl) (by kernel_rfl) (by kernel_rfl) (by kernel_rfl) (by kernel_rfl) (by kernel_rfl) (by rfl) (by simp [pF, tl])) ?_ (fun e y q he => by cases he.1)
    rintro ⟨t, h', sc'⟩ q' ⟨_, hh, hc⟩
    simp only at hh
    subst hh
    rcases hc with ⟨hq, hq', ht⟩ | ⟨hq, hq', ht⟩
    · simp only at ht
      have et : t = pF s (phN s q) a ++ [itR r, dgT (q : Nat) ((Utf8.decode s q).1 : Nat), .bool true] ++ tl 14 g := by rw [ht]; rfl
      subst et
      obtain ⟨r1, r2⟩ := rune_by hq
      by_cases hk : hxOk (byI s q) = true
      · obtain ⟨r3, r4⟩ := r2 hk
        refine ((goesT_runsW tabPh_ok (p_go s (phN s q) (q : Nat) ((Utf8.decode s q).1 : Nat) r a g) (okCons rfl (okL1 (r1.trans hk)))).i).mono fun e z q2 he => ?_
        obtain ⟨rfl, rfl, ⟨g1, e2⟩, e3⟩ := he
        have hb := phN_lt s q
        have hv := hxV_lt (byI s q)
        have hp : (16 : Int) ^ q ≤ 1152921504606846976 := pow16 (by omega)
        rw [r4, shl_or hb.1 (by omega) hv.1 hv.2] at e2
        refine ⟨n - 1, by omega, by omega, ?_, e3, ?_⟩
        · intro j hj
          by_cases hj' : j = q
          · rw [hj']; exact hk
          · exact hA j (by omega)
        · rw [hq', r3]
          refine ⟨fun k => z.1.getD k undef, g1 0, g1 1, fun k => g1 (k + 2), ?_⟩
          rw [e2]
          rfl
      · have hk' : hxOk (byI s q) = false := by simpa using hk
        refine ((goesT_runsW tabPh_ok (p_bad s (phN s q) (q : Nat) ((Utf8.decode s q).1 : Nat) r a g) (okL1 (r1.trans hk'))).i).mono fun e z q2 he => ?_
        obtain ⟨rfl, rfl, ⟨g1, e2⟩, e3⟩ := he
        exact ⟨e3, fun hall => hk (hall q hq), _, g1, e2⟩
    · simp only at ht
      have et : t = pF s (phN s q) a ++ [itR r, .tuple #[.bool false], .bool false] ++ tl 14 g := by rw [ht]; rfl
      subst et
      have hqs : q = s.size := by omega
      refine ((goesT_runsW tabPh_ok (p_out s (phN s q) r a g) (fun x hx => by cases hx)).i).mono fun e z q2 he => ?_
      obtain ⟨rfl, rfl, ⟨g1, e2⟩, e3⟩ := he
      rw [hqs] at e2 hA
      exact ⟨rfl, e3, hA, a, g1, e2⟩
  · match e, he with
    | none, he => exact he
    | some none, he => exact he
/-- a pattern and no error, or the error of form -/
def vPh (s : ByteArray) (d : Bool) : Value := if d = true then .tuple #[.int .u64 (phN s s.size), .nilIface] else .tuple #[.int .u64 0, .iface 33 (.int .i64 3)]
def phOk (s : ByteArray) : Prop := (1 ≤ s.size ∧ s.size ≤ 16) ∧ phA s s.size
def pH0 (s : ByteArray) : List Value := [.string s, .tuple #[], .int .u64 0, .nilIface, .int .u64 0]
theorem p_hd (s : ByteArray) : GoesT (evL tabPh 300 [pR0 Tryd.f4, pR1 Tryd.f4, pR3 Tryd.f4] ([.string s] ++ List.replicate 35 undef, ⟨0, []⟩, [cmp false, cmp false]) ⟨[], [], []⟩) 5 31 none (pH0 s) ⟨0, []⟩ [(decide ((s.size : Int) > 16), false), (decide ((s.size : Int) < 1), false)] := ⟨by kernel_rfl, by kernel_rfl, by kernel_rfl⟩
theorem p_sh (s : ByteArray) : Fits (reckon tabPh 300 4 [.string s] [cmp true]) (.tuple #[.int .u64 0, .iface 33 (.int .i64 3)]) [(decide ((s.size : Int) < 1), true)] := ⟨by kernel_rfl, by kernel_rfl, by kernel_rfl, by kernel_rfl⟩
theorem p_lg (s : ByteArray) : Fits (reckon tabPh 300 4 [.string s] [cmp false, cmp true]) (.tuple #[.int .u64 0, .iface 33 (.int .i64 3)]) [(decide ((s.size : Int) > 16), true), (decide ((s.size : Int) < 1), false)] := ⟨by kernel_rfl, by kernel_rfl, by kernel_rfl, by kernel_rfl⟩
theorem p_mid {s : ByteArray} (h1 : 1 ≤ s.size) (h2 : s.size ≤ 16) {d : Bool} (hd : phA s s.size ↔ d = true) :
    RunsW tabPh (cBody Tryd.f4) ([.string s] ++ List.replicate 35 undef, ⟨0, []⟩, []) fun e y => (e = none ∨ e = some none) ∧ resS Tryd.prog Tryd.f4 y.1 y.2.1 = some (vPh s d) := by
  rw [pB_is]
  refine goesT_listW tabPh_ok (p_hd s) (okCons (decide_eq_false (by omega)) (okL1 (decide_eq_false (by omega)))) fun g => ?_
  refine RunsW.seq (P1 := fun e z => z.2.1 = hT1 ∧ match e with
      | none => phA s s.size ∧ ∃ a g, z.1 = pF s (phN s s.size) a ++ tl 17 g
      | some none => ¬ phA s s.size ∧ ∃ u g, z.1 = [.string s, u, .int .u64 0, .iface 33 (.int .i64 3)] ++ tl 32 g
      | some (some _) => False) ?_ ?_ ?_
  · rw [pR4_is]
    refine RunsW.overString (j := 0) (d1 := 18) (d2 := 19) (ty := 9) (by kernel_rfl) (by kernel_rfl) (by kernel_rfl) (by kernel_rfl) (by kernel_rfl) (by kernel_rfl) (by kernel_rfl) (by rfl) (by simp [tl, pH0]) fun r => ?_
    have et : ((pH0 s ++ tl 31 g).set 18 (.string s)).set 19 (.iface dead (.pointer (some ⟨r, 0, none⟩))) =
        pF s 0 (fun k => ((pH0 s ++ tl 31 g).set 18 (.string s)).getD k undef) ++ [itR r, g 15, g 16] ++ tl 14 (fun k => g (k + 17)) := by rfl
    rw [et]
    exact (p_loop h2 r _ _ _ _).mono fun e z q he => ⟨he.1, he⟩
  · rintro ⟨t, h', sc⟩ ⟨hh, hA, a, g1, ht⟩
    simp only at hh ht
    subst hh ht
    refine (goesT_runsW tabPh_ok (p_fin s (phN s s.size) a g1) (fun x hx => by cases hx)).mono fun e z he => ?_
    obtain ⟨rfl, ⟨g2, e2⟩, e3⟩ := he
    refine ⟨.inr rfl, ?_⟩
    unfold vPh
    rw [e2, e3, if_pos (hd.1 hA)]
    rfl
  · rintro e ⟨t, h', sc⟩ ⟨hh, hc⟩
    match e, hc with
    | none, hc =>
      obtain ⟨hA, u, g1, ht⟩ := hc
      simp only at hh ht
      subst hh ht
      refine ⟨.inr rfl, ?_⟩
      unfold vPh
      rw [if_neg (fun h => hA (hd.2 h))]
      rfl
open Classical in
theorem parse_calls (s : ByteArray) (w : World) : Calls Tryd.prog 4 #[.string s] w fun e w' => e = .returned (vPh s (decide (phOk s))) ∧ Tidy w w' := by
  have nn : ¬ phOk s → vPh s (decide (phOk s)) = .tuple #[.int .u64 0, .iface 33 (.int .i64 3)] := fun h => by
    unfold vPh
    rw [decide_eq_false h]
    rfl
  by_cases h1 : (s.size : Int) < 1
  · rw [nn (fun h => by have := h.1; omega)]
    exact fits_calls tabPh_ok (p_sh s) (okL1 (decide_eq_true h1)) (by rfl) (by rfl) w
  · by_cases h2 : (s.size : Int) > 16
    · rw [nn (fun h => by have := h.1; omega)]
      exact fits_calls tabPh_ok (p_lg s) (okCons (decide_eq_true h2) (okL1 (decide_eq_false h1))) (by rfl) (by rfl) w
    · refine calls_of_runsW (T := tabPh) (c := cBody Tryd.f4) (vals := [.string s]) Tryd.func4 (by kernel_rfl) (by rfl) ?_ ?_ w
      · unfold vPh
        split <;> rfl
      · exact p_mid (by omega) (by omega) (by unfold phOk; simp only [decide_eq_true_eq]; exact ⟨fun h => ⟨by omega, h⟩, fun h => h.2⟩)
end Go.Proofs.YtnmabjhnjdeekaaDoor
