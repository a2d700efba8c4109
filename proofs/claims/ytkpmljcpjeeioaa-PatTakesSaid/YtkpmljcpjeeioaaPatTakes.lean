/-
  PROVED HERE: for every input the law tillerlaw03.PatTakes returns true, and its argument reads afterwards as it read before: the parts of any pattern, its class, whether it is a number, and finite. No condition.
-/
import Derived.Test.YtkpmljcpjeeioaaPatB
import Derived.Test.YtkpmljcpjeeioaaRow
import Derived.Test.YtkpmljcpjeeioaaRows
namespace Go.Proofs.Ytkpmljcpjeeioaa.patTakes
open Go.KRun Go.Pt Go.ChangeShapes Go.WideShapes Go.ChangeAt Go.RowKit
set_option linter.unusedVariables false

def eqT (p : Int) : Bool := (sgn p == sgn p) && ((cl p == cl p) && ((xp p == xp p) && ((sg p == sg p) && true)))
theorem law (p : Int) (n f : Bool) : Fits (reckon (tabOf Try.prog extY conR true) 3000 3 [.int .u64 p] [sam true, cmp true, cmp n, cmp n, cmp f, cmp f]) (.bool true)
    [(decide (cl p < 3), f), lU p, (decide (cl p ≤ 2), f), lU p, (decide (cl p > 3), n), lU p, (decide (cl p > 3), n), lU p, (cl p == cl p, true), lU p, (eqT p, true), lU p, lU p] := by
  cases n <;> cases f <;> exact ⟨by kernel_rfl, by kernel_rfl, by kernel_rfl, by kernel_rfl⟩
theorem walk (p : Int) (hp : U p) (w : World) : Calls Try.prog 3 #[.int .u64 p] w fun e w' => e = .returned (.bool true) ∧ Tidy w w' := by
  have hu : decide (U p) = true := decide_eq_true hp
  refine fits_calls (tabY_ok conR_ok) (law p (decide (cl p > 3)) (decide (cl p ≤ 2))) ?_ (by rfl) (by rfl) w
  exact okCons (by simp only [decide_eq_decide]; omega) (okCons hu (okCons rfl (okCons hu (okCons rfl (okCons hu (okCons rfl (okCons hu (okCons (by simp) (okCons hu (okCons (by unfold eqT; simp) (okCons hu (okL1 hu))))))))))))

theorem own : ownKnob Try.prog.godebug = none := by kernel_rfl
set_option maxRecDepth 100000 in
theorem lifted (os : Os) (started : os.Started) (H : Type) (enc : TypeId × Value → H) :
    ReturnsInHanded {} Try.checked os 3 .any (Rows.patTakesSpec.pre6 enc Try.prog Try.f3 Rows.patTakesRow.domain false) (Rows.patTakesSpec.post enc Try.prog Try.f3 false true false false) := by
  refine returnsInHanded_of_change (C := Try.checked) own started (by kernel_rfl) Try.func3
    (ChangeSpec.witness6 (enc := enc) (C := Try.checked) false ⟨#[], #[.int .u64 0], []⟩ 8 (by kernel_rfl) (by kernel_rfl) (by kernel_rfl) (by kernel_rfl)) ?_
  intro W base args ds gs before hval0 hW hcnd _
  have hval : ∀ (j : Nat) t v, Try.f3.params[j]? = some t → args[j]? = some v → Value.okWide Try.prog W .any base t v := hval0
  have hW' := hW
  obtain ⟨p, q, hA0, hV, rfl, hfz, hnd⟩ := hW
  have hA : DataW.TrodAll enc Try.prog W 0 (fun _ => true) true Try.f3.params.toList args.toList ds p := hA0
  rw [Try.params3] at hA hval
  obtain ⟨v0, d0, rfl, rfl, h0⟩ := trodAll_one hA
  obtain ⟨rfl, rfl⟩ := trodVars_none hV
  obtain ⟨x, rfl, rfl, rfl, wx⟩ := open_int Try.underlying22 (hval 0 22 v0 rfl rfl) h0
  clear hA0 hval0
  simp only [List.append_nil] at hW'
  refine (walk x (u64_bounds wx) W).mono fun e W' ⟨he, hg⟩ => ?_
  subst he
  exact ⟨_, rfl, post_of_same (pa := []) (pv := []) hW' (fun _ _ _ => trodAll_mk1 (shut_bool Try.underlying4 _)) (fun sp _ => trodAll_mk1 (shut_int Try.underlying22 wx)) (fun _ _ => rfl) rfl
    (hg.1.frame _) (tidy_frozen hg) (ok_one (by kernel_rfl) rfl (okWide_bool_mk Try.underlying4 _))⟩

theorem proved : Rows.PatTakesSaid :=
  OpenClaim.holds_of_wide 3 Try.f3 rfl rfl rfl rfl rfl rfl rfl ⟨rfl, rfl, rfl, rfl, rfl⟩ rfl rfl rfl rfl rfl (by kernel_rfl) Try.func3 (by kernel_rfl)
    (of_decide_eq_true (by kernel_rfl)) (by unfold Func.isWrapper; first | (rw [if_pos (by decide +kernel)]; kernel_rfl) | (rw [if_neg (by decide +kernel)]; exact ⟨rfl, rfl⟩))
    (fun os started H enc _ => lifted os started H enc)
end Go.Proofs.Ytkpmljcpjeeioaa.patTakes
