/-
  PROVED HERE: for every input the law tillerlaw01.WideOrder returns true, and each argument reads afterwards as it read before: of two numbers of 256 bits one is less, or they are the same, by wide.Cmp and wide.Sub. No condition.
-/
import Derived.Test.YtaaibjgcbghejabSure
import Derived.Test.YtaaibjgcbghejabRow
import Derived.Test.YtaaibjgcbghejabRows
namespace Go.Proofs.Ytaaibjgcbghejab.wideOrder
open Go.KRun Go.Wd Go.ChangeShapes Go.WideShapes Go.ChangeAt Go.RowKit
set_option linter.unusedVariables false

def con : Con := alt 14 (g2 cmpN) (alt 10 gSure (alt 7 (g2 subB) conN))
theorem con_ok : ConOk con := alt_ok Try.func14 rfl cmpN_ok (alt_ok Try.func10 rfl gSure_ok (alt_ok Try.func7 rfl subB_ok conN_ok))

def okp (x y : W4) : Bool × Bool := (decide (x.ok ∧ y.ok), true)
def is (x y : W4) (k : Int) : Bool × Bool := (decide (cmpI x y = k), true)
def zero : W4 := ⟨0, 0, 0, 0⟩
theorem law_less (x y : W4) : Fits (reckon (tabOf Try.prog extY con true) 3000 5 [vW x, vW y] [num (-1), tst true, num 1, sam false]) (.bool true)
    [(eqW x y, false), okp y x, is y x 1, okp x y, (decide (x.val < y.val), true), okp x y, is x y (-1)] := ⟨by kernel_rfl, by kernel_rfl⟩
theorem law_more (x y : W4) : Fits (reckon (tabOf Try.prog extY con true) 3000 5 [vW x, vW y] [num 1, tst false, num (-1), sam false]) (.bool true)
    [(eqW x y, false), okp y x, is y x (-1), okp x y, (decide (x.val < y.val), false), okp x y, is x y 1] := ⟨by kernel_rfl, by kernel_rfl⟩
theorem law_same (x y : W4) : Fits (reckon (tabOf Try.prog extY con true) 3000 5 [vW x, vW y] [num 0, tst false, num 0, sam true, sam true]) (.bool true)
    [(eqW (W4.of (x.val - y.val)) zero, true), (eqW x y, true), okp y x, is y x 0, okp x y, (decide (x.val < y.val), false), okp x y, is x y 0] := ⟨by kernel_rfl, by kernel_rfl⟩

theorem walk (x y : W4) (hx : x.ok) (hy : y.ok) (w : World) : Calls Try.prog 5 #[vW x, vW y] w fun e w' => e = .returned (.bool true) ∧ Tidy w w' := by
  have hne : x.val ≠ y.val → eqW x y = false := fun h => by
    cases he : eqW x y
    · rfl
    · exact absurd (congrArg W4.val (eqW_iff.1 he)) h
  by_cases h1 : x.val < y.val
  · refine fits_calls (tabY_ok con_ok) (law_less x y) ?_ (by rfl) (by rfl) w
    have e1 : cmpI x y = -1 := by unfold cmpI; rw [if_pos h1]
    have e2 : cmpI y x = 1 := by unfold cmpI; rw [if_neg (by omega), if_neg (by omega)]
    intro p hp
    simp only [List.mem_cons, List.not_mem_nil, or_false] at hp
    rcases hp with rfl | rfl | rfl | rfl | rfl | rfl | rfl
    · exact hne (by omega)
    · exact decide_eq_true ⟨hy, hx⟩
    · exact decide_eq_true e2
    · exact decide_eq_true ⟨hx, hy⟩
    · exact decide_eq_true h1
    · exact decide_eq_true ⟨hx, hy⟩
    · exact decide_eq_true e1
  · by_cases h2 : x.val = y.val
    · have hxy := W4.val_inj hx hy h2
      subst hxy
      refine fits_calls (tabY_ok con_ok) (law_same x x) ?_ (by rfl) (by rfl) w
      have e1 : cmpI x x = 0 := by unfold cmpI; rw [if_neg h1, if_pos rfl]
      have e3 : W4.of (x.val - x.val) = zero := by rw [Int.sub_self]; rfl
      intro p hp
      simp only [List.mem_cons, List.not_mem_nil, or_false] at hp
      rcases hp with rfl | rfl | rfl | rfl | rfl | rfl | rfl | rfl
      · exact eqW_iff.2 e3
      · exact eqW_iff.2 rfl
      · exact decide_eq_true ⟨hx, hx⟩
      · exact decide_eq_true e1
      · exact decide_eq_true ⟨hx, hx⟩
      · exact decide_eq_false h1
      · exact decide_eq_true ⟨hx, hx⟩
      · exact decide_eq_true e1
    · refine fits_calls (tabY_ok con_ok) (law_more x y) ?_ (by rfl) (by rfl) w
      have e1 : cmpI x y = 1 := by unfold cmpI; rw [if_neg h1, if_neg h2]
      have e2 : cmpI y x = -1 := by unfold cmpI; rw [if_pos (by omega)]
      intro p hp
      simp only [List.mem_cons, List.not_mem_nil, or_false] at hp
      rcases hp with rfl | rfl | rfl | rfl | rfl | rfl | rfl
      · exact hne h2
      · exact decide_eq_true ⟨hy, hx⟩
      · exact decide_eq_true e2
      · exact decide_eq_true ⟨hx, hy⟩
      · exact decide_eq_false h1
      · exact decide_eq_true ⟨hx, hy⟩
      · exact decide_eq_true e1

theorem own : ownKnob Try.prog.godebug = none := by kernel_rfl
theorem cellsA : Try.prog.cellsOf 23 = 4 := by kernel_rfl
theorem cellsE : Try.prog.cellsOf 22 = 1 := by kernel_rfl
set_option maxRecDepth 100000 in
theorem lifted (os : Os) (started : os.Started) (H : Type) (enc : TypeId × Value → H) :
    ReturnsInHanded {} Try.checked os 5 .any (Rows.wideOrderSpec.pre6 enc Try.prog Try.f5 Rows.wideOrderRow.domain false) (Rows.wideOrderSpec.post enc Try.prog Try.f5 false true false false) := by
  refine returnsInHanded_of_change (C := Try.checked) own started (by kernel_rfl) Try.func5
    (ChangeSpec.witness6 (enc := enc) (C := Try.checked) false ⟨#[], #[.agg #[.int .u64 0, .int .u64 0, .int .u64 0, .int .u64 0], .agg #[.int .u64 0, .int .u64 0, .int .u64 0, .int .u64 0]], []⟩ 8 (by kernel_rfl) (by kernel_rfl) (by kernel_rfl) (by kernel_rfl)) ?_
  intro W base args ds gs before hval0 hW hcnd _
  have hval : ∀ (j : Nat) t v, Try.f5.params[j]? = some t → args[j]? = some v → Value.okWide Try.prog W .any base t v := hval0
  have hW' := hW
  obtain ⟨p, q, hA0, hV, rfl, hfz, hnd⟩ := hW
  have hA : DataW.TrodAll enc Try.prog W 0 (fun _ => true) true Try.f5.params.toList args.toList ds p := hA0
  rw [Try.params5] at hA hval
  obtain ⟨v0, v1, d0, d1, p0, p1, rfl, rfl, rfl, h0, h1⟩ := trodAll_two hA
  obtain ⟨rfl, rfl⟩ := trodVars_none hV
  obtain ⟨a0, a1, a2, a3, rfl, rfl, rfl, wa0, wa1, wa2, wa3⟩ := open_w4 Try.underlying23 Try.underlying22 cellsA cellsE (hval 0 23 v0 rfl rfl) h0
  obtain ⟨b0, b1, b2, b3, rfl, rfl, rfl, wb0, wb1, wb2, wb3⟩ := open_w4 Try.underlying23 Try.underlying22 cellsA cellsE (hval 1 23 v1 rfl rfl) h1
  clear hA0 hval0
  simp only [List.append_nil] at hW'
  refine (walk ⟨a0, a1, a2, a3⟩ ⟨b0, b1, b2, b3⟩ ⟨u64_bounds wa0, u64_bounds wa1, u64_bounds wa2, u64_bounds wa3⟩ ⟨u64_bounds wb0, u64_bounds wb1, u64_bounds wb2, u64_bounds wb3⟩ W).mono fun e W' ⟨he, hg⟩ => ?_
  subst he
  exact ⟨_, rfl, post_of_same (pa := []) (pv := []) hW' (fun _ _ _ => trodAll_mk1 (shut_bool Try.underlying4 _))
    (fun sp _ => trodAll_mk2 (shut_w4 Try.underlying23 Try.underlying22 cellsA cellsE wa0 wa1 wa2 wa3) (shut_w4 Try.underlying23 Try.underlying22 cellsA cellsE wb0 wb1 wb2 wb3)) (fun _ _ => rfl) rfl
    (hg.1.frame _) (tidy_frozen hg) (ok_one (by kernel_rfl) rfl (okWide_bool_mk Try.underlying4 _))⟩

theorem proved : Rows.WideOrderSaid :=
  OpenClaim.holds_of_wide 5 Try.f5 rfl rfl rfl rfl rfl rfl rfl ⟨rfl, rfl, rfl, rfl, rfl⟩ rfl rfl rfl rfl rfl (by kernel_rfl) Try.func5 (by kernel_rfl)
    (of_decide_eq_true (by kernel_rfl)) (by unfold Func.isWrapper; first | (rw [if_pos (by decide +kernel)]; kernel_rfl) | (rw [if_neg (by decide +kernel)]; exact ⟨rfl, rfl⟩))
    (fun os started H enc _ => lifted os started H enc)
end Go.Proofs.Ytaaibjgcbghejab.wideOrder
