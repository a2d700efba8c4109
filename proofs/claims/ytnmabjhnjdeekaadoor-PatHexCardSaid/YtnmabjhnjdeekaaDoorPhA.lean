/-
  pat.Parse: what a digit stands for, and the pieces of its loop.
-/
import Derived.Test.YtnmabjhnjdeekaaDoorHcs
import Derived.Test.YtnmabjhnjdeekaaDoorOkl
import Derived.Test.YtnmabjhnjdeekaaDoorRunI
namespace Go.Proofs.YtnmabjhnjdeekaaDoor
open Go.KRun
set_option maxRecDepth 100000
set_option linter.unusedVariables false

/-- what a digit of base 16 stands for -/
def hxV (c : Int) : Int := if 48 ≤ c ∧ c ≤ 57 then c - 48 else if 97 ≤ c ∧ c ≤ 102 then c - 87 else 0
def hxOk (c : Int) : Bool := decide ((48 ≤ c ∧ c ≤ 57) ∨ (97 ≤ c ∧ c ≤ 102))
theorem hxV_lt (c : Int) : 0 ≤ hxV c ∧ hxV c < 16 := by unfold hxV; split <;> (try split) <;> omega
def vDg (c : Int) : Value := .tuple #[.int .u64 (hxV c), .bool (hxOk c)]
theorem dig_a (c : Int) : Fits (reckon (tabOf Tryd.prog extY conN true) 300 10 [.int .i32 c] [cmp true, cmp true]) (.tuple #[.int .u64 (IntKind.u64.wrap (IntKind.i32.wrap (c - 48))), .bool true]) [(decide (c ≤ 57), true), (decide (c ≥ 48), true)] := ⟨by kernel_rfl, by kernel_rfl, by kernel_rfl, by kernel_rfl⟩
theorem dig_b (c : Int) : Fits (reckon (tabOf Tryd.prog extY conN true) 300 10 [.int .i32 c] [cmp true, cmp false, cmp true, cmp true]) (.tuple #[.int .u64 (IntKind.u64.wrap (IntKind.u64.wrap (IntKind.i32.wrap (c - 97)) + 10)), .bool true]) [(decide (c ≤ 102), true), (decide (c ≥ 97), true), (decide (c ≤ 57), false), (decide (c ≥ 48), true)] := ⟨by kernel_rfl, by kernel_rfl, by kernel_rfl, by kernel_rfl⟩
theorem dig_n1 (c : Int) : Fits (reckon (tabOf Tryd.prog extY conN true) 300 10 [.int .i32 c] [cmp false, cmp false]) (.tuple #[.int .u64 0, .bool false]) [(decide (c ≥ 97), false), (decide (c ≥ 48), false)] := ⟨by kernel_rfl, by kernel_rfl, by kernel_rfl, by kernel_rfl⟩
theorem dig_n2 (c : Int) : Fits (reckon (tabOf Tryd.prog extY conN true) 300 10 [.int .i32 c] [cmp true, cmp false, cmp false]) (.tuple #[.int .u64 0, .bool false]) [(decide (c ≥ 97), false), (decide (c ≤ 57), false), (decide (c ≥ 48), true)] := ⟨by kernel_rfl, by kernel_rfl, by kernel_rfl, by kernel_rfl⟩
theorem dig_n3 (c : Int) : Fits (reckon (tabOf Tryd.prog extY conN true) 300 10 [.int .i32 c] [cmp true, cmp false, cmp true, cmp false]) (.tuple #[.int .u64 0, .bool false]) [(decide (c ≤ 102), false), (decide (c ≥ 97), true), (decide (c ≤ 57), false), (decide (c ≥ 48), true)] := ⟨by kernel_rfl, by kernel_rfl, by kernel_rfl, by kernel_rfl⟩
theorem dig_calls (c : Int) (w : World) : Calls Tryd.prog 10 #[.int .i32 c] w fun e w' => e = .returned (vDg c) ∧ Tidy w w' := by
  have T := tabY_ok conN_ok
  have nn : ¬ ((48 ≤ c ∧ c ≤ 57) ∨ (97 ≤ c ∧ c ≤ 102)) → vDg c = .tuple #[.int .u64 0, .bool false] := fun h => by
    unfold vDg hxV hxOk
    rw [if_neg (fun g => h (.inl g)), if_neg (fun g => h (.inr g)), decide_eq_false h]
  by_cases h1 : c ≥ 48
  · have l1 := decide_eq_true h1
    by_cases h2 : c ≤ 57
    · have e : vDg c = .tuple #[.int .u64 (IntKind.u64.wrap (IntKind.i32.wrap (c - 48))), .bool true] := by
        have e1 : IntKind.u64.wrap (IntKind.i32.wrap (c - 48)) = c - 48 := by simp [IntKind.wrap, IntKind.bits, IntKind.signed]; omega
        unfold vDg hxV hxOk
        rw [e1, if_pos ⟨h1, h2⟩, decide_eq_true (.inl ⟨h1, h2⟩)]
      rw [e]
      exact fits_calls T (dig_a c) (okCons (decide_eq_true h2) (okL1 l1)) (by rfl) (by rfl) w
    · have l2 := decide_eq_false h2
      by_cases h3 : c ≥ 97
      · have l3 := decide_eq_true h3
        by_cases h4 : c ≤ 102
        · have e : vDg c = .tuple #[.int .u64 (IntKind.u64.wrap (IntKind.u64.wrap (IntKind.i32.wrap (c - 97)) + 10)), .bool true] := by
            have e1 : IntKind.u64.wrap (IntKind.u64.wrap (IntKind.i32.wrap (c - 97)) + 10) = c - 87 := by simp [IntKind.wrap, IntKind.bits, IntKind.signed]; omega
            unfold vDg hxV hxOk
            rw [e1, if_neg (by omega), if_pos ⟨h3, h4⟩, decide_eq_true (.inr ⟨h3, h4⟩)]
          rw [e]
          exact fits_calls T (dig_b c) (okCons (decide_eq_true h4) (okCons l3 (okCons l2 (okL1 l1)))) (by rfl) (by rfl) w
        · rw [nn (by omega)]
          exact fits_calls T (dig_n3 c) (okCons (decide_eq_false h4) (okCons l3 (okCons l2 (okL1 l1)))) (by rfl) (by rfl) w
      · rw [nn (by omega)]
        exact fits_calls T (dig_n2 c) (okCons (decide_eq_false h3) (okCons l2 (okL1 l1))) (by rfl) (by rfl) w
  · rw [nn (by omega)]
    exact fits_calls T (dig_n1 c) (okCons (decide_eq_false (by omega)) (okL1 (decide_eq_false h1))) (by rfl) (by rfl) w
/-- a digit, told ahead whether it is one -/
def gDg : Ans := fun vals s =>
  match vals, s with
  | [.int .i32 c], .inr (.inr (.inr (.inl d))) :: s' => some (.tuple #[.int .u64 (hxV c), .bool d], s', [(hxOk c, d)])
  | _, _ => none
theorem gDg_ok : AnsOk 10 gDg := by
  intro vals s v s' lg h hl w
  unfold gDg at h
  split at h
  · rename_i c d s2
    cases h
    have hd : hxOk c = d := hl _ (List.mem_singleton.2 rfl)
    have := dig_calls c w
    unfold vDg at this
    rw [hd] at this
    exact this
  · cases h
def conPh : Con := alt 10 gDg conN
theorem conPh_ok : ConOk conPh := alt_ok Tryd.func10 rfl gDg_ok conN_ok
noncomputable def tabPh : Tab := tabH Tryd.prog extY conPh hcN
theorem tabPh_ok : TabOk tabPh := tabH_ok conPh_ok hcN_ok

/-! ### the pieces of Parse -/
def pR0 (F : Func) : Code := cFst (cBody F)
def pR1 (F : Func) : Code := cFst (cSnd (cBody F))
def pR3 (F : Func) : Code := cFst (cSnd (cSnd (cBody F)))
def pR4 (F : Func) : Code := cFst (cFst (cSnd (cSnd (cSnd (cBody F)))))
def pLp (F : Func) : Code := cSnd (cFst (cSnd (cSnd (cSnd (cBody F)))))
def pFn (F : Func) : Code := cSnd (cSnd (cSnd (cSnd (cBody F))))
def pBd (F : Func) : Code := cSnd (cIn (cIn (pLp F)))
def pF (s : ByteArray) (P : Int) (a : Nat → Value) : List Value := [.string s, a 1, a 2, a 3, .int .u64 P, a 5, a 6, a 7, a 8, a 9, a 10, a 11, a 12, a 13, a 14, a 15, a 16, a 17, a 18]
def itR (r : Nat) : Value := .iface dead (.pointer (some ⟨r, 0, none⟩))
def dgT (q c : Int) : Value := .tuple #[.bool true, .int .i64 q, .int .i32 c]
theorem p_go (s : ByteArray) (P q c : Int) (r : Nat) (a g : Nat → Value) : GoesT (evC tabPh 300 false (pBd Tryd.f4) (pF s P a ++ [itR r, dgT q c, .bool true] ++ tl 14 g, hT1, [cmp true]) ⟨[], [], []⟩) 20 16 none [.string s, a 1, a 2, a 3, .int .u64 (IntKind.u64.wrap ↑(BitVec.ofInt 64 (IntKind.u64.wrap (P * 2 ^ min (Int.toNat 4) 64)) ||| BitVec.ofInt 64 (hxV c)).toNat), a 5, .int .i32 c, .int .u64 (hxV c), .bool true, a 9, a 10, a 11, a 12, a 13, a 14, a 15, a 16, a 17, a 18, itR r] hT1 [(decide ((4 : Int) < 0), false), (hxOk c, true)] := ⟨by kernel_rfl, by kernel_rfl, by kernel_rfl⟩
theorem p_bad (s : ByteArray) (P q c : Int) (r : Nat) (a g : Nat → Value) : GoesT (evC tabPh 300 false (pBd Tryd.f4) (pF s P a ++ [itR r, dgT q c, .bool true] ++ tl 14 g, hT1, [cmp false]) ⟨[], [], []⟩) 4 32 (some none) [.string s, a 1, .int .u64 0, .iface 33 (.int .i64 3)] hT1 [(hxOk c, false)] := ⟨by kernel_rfl, by kernel_rfl, by kernel_rfl⟩
theorem p_out (s : ByteArray) (P : Int) (r : Nat) (a g : Nat → Value) : GoesT (evC tabPh 300 false (pBd Tryd.f4) (pF s P a ++ [itR r, .tuple #[.bool false], .bool false] ++ tl 14 g, hT1, []) ⟨[], [], []⟩) 19 17 (some (some 0)) (pF s P a) hT1 [] := ⟨by kernel_rfl, by kernel_rfl, by kernel_rfl⟩
theorem p_fin (s : ByteArray) (P : Int) (a g : Nat → Value) : GoesT (evC tabPh 300 false (pFn Tryd.f4) (pF s P a ++ tl 17 g, hT1, []) ⟨[], [], []⟩) 4 32 (some none) [.string s, a 1, .int .u64 P, .nilIface] hT1 [] := ⟨by kernel_rfl, by kernel_rfl, by kernel_rfl⟩
end Go.Proofs.YtnmabjhnjdeekaaDoor
