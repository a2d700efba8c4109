/-
  PROVED HERE: the tied card of tillerlaw04.RndOf: for every input the law returns true, and each argument reads afterwards as it read before: the number of any pattern, or the error; it is rounded to it, without flags, by any mode. Its condition: the variable errors.errorType holds what the program's own text lays there (tied, by the given text).
-/
import Derived.Test.YtckbkjjigejeiaaDoorRnF
import Derived.Test.YtckbkjjigejeiaaDoorFlat
import Derived.Test.YtckbkjjigejeiaaDoorRows
import Derived.Test.YtckbkjjigejeiaaDoorCards
import Derived.Test.YtckbkjjigejeiaaDoorTie
import Derived.ChangeSame
import Derived.ChangeVars
import Derived.JoinedOf
import Derived.RowKit
import Derived.RowKitTokens
import Derived.LaidLaws
import Derived.LaidHandle
import Derived.Stop.Joined
import Derived.SevenTiedAt
namespace Go.Proofs.YtckbkjjigejeiaaDoor.rndOf
open Go.KRun Go.Pt Go.ChangeShapes Go.WideShapes Go.ChangeAt Go.RowKit Go.Wd Go.Rn
set_option linter.unusedVariables false

theorem o_not (p m : Int) : Fits (reckonAt (tabH Tryd.prog extY conRP hcRP) hK 300 3 [.int .u64 p, .int .i64 m] [cmp false, cmp false, cmp true]) (.bool true) [(1 == 1, true), (Nat.beq 47 47 && Nat.beq kT kT && kOk kV, true), (decide (cl p < 3), false), (decide (U p), true), (decide (cl p ≤ 2), false), (decide (U p), true)] := ⟨by kernel_rfl, by kernel_rfl, by kernel_rfl, by kernel_rfl⟩
theorem o_fin (p m : Int) : Fits (reckonAt (tabH Tryd.prog extY conRP hcRP) hK 300 3 [.int .u64 p, .int .i64 m] [cmp true, cmp true, sam true, cmp true, cmp true]) (.bool true) [(rnF m (sgn p) (tw (wSg p) false) (clp (xp p) - 1) == 0, true), (sS (sgn p) (rnP m (sgn p) (tw (wSg p) false) (clp (xp p) - 1)) == p, true), (sgn p == sgn p && (xp p == xp p && (sg p == sg p && ((0 : Int) == 0 && ((0 : Int) == 0 && ((0 : Int) == 0 && true))) && (false == false && true))), true), (decide (wSg p).ok, true), (decide (U p), true), (decide (cl p < 3), true), (decide (U p), true), (decide (U p), true), (decide (cl p ≤ 2), true), (decide (U p), true)] := ⟨by kernel_rfl, by kernel_rfl, by kernel_rfl, by kernel_rfl⟩
theorem walk (p m : Int) (hp : U p) (w : World) (hk : known w) : Calls Tryd.prog 3 #[.int .u64 p, .int .i64 m] w fun e w' => e = .returned (.bool true) ∧ Tidy w w' := by
  have hu : decide (U p) = true := decide_eq_true hp
  by_cases hc : cl p ≤ 2
  · obtain ⟨h1, h2⟩ := own_round hp hc m
    have k1 : decide (cl p ≤ 2) = true := decide_eq_true hc
    have k2 : decide (cl p < 3) = true := decide_eq_true (by omega)
    exact fitsAt_still (tabH_ok conRP_ok hcRP_ok) (o_fin p m) (okCons (by rw [h1]; rfl) (okCons (by rw [h2]; simp) (okCons (by simp) (okCons (decide_eq_true (wSg_ok p)) (okCons hu (okCons k2 (okCons hu (okCons hu (okCons k1 (okL1 hu)))))))))) (by rfl) (by rfl) (startK hk)
  · have k1 : decide (cl p ≤ 2) = false := decide_eq_false hc
    have k2 : decide (cl p < 3) = false := decide_eq_false (by omega)
    exact fitsAt_still (tabH_ok conRP_ok hcRP_ok) (o_not p m) (okCons rfl (okCons (by kernel_rfl) (okCons k2 (okCons hu (okCons k1 (okL1 hu)))))) (by rfl) (by rfl) (startK hk)
theorem own : ownKnob Tryd.prog.godebug = none := by kernel_rfl
theorem et : Tryd.prog.globalNamed "errors.errorType" = some 0 := by kernel_rfl
theorem rt : (Tryd.prog.cutTypes.find? (·.1 == "internal/reflectlite.rtype")).map (·.2) = some 84 := by kernel_rfl
theorem oneRow : ((List.range 132).filter fun t => Tryd.prog.rowNamed t [101, 114, 114, 111, 114]) = [28] := by kernel_rfl
theorem size : Tryd.prog.types.size = 132 := by kernel_rfl
/-- what the condition gives: the variable's one cell -/
theorem known_of {W : World} (h : laidMetH Tryd.prog Rows.rndOfRow.laid W) : known W := by
  have h' : laidMet Tryd.prog [] W ∧ handlesMet Tryd.prog Rows.rndOfRow.laid W := h
  obtain ⟨name, u, ty, e1, e2, e3, e4, e5⟩ := h'.2 _ (List.mem_singleton.2 rfl)
  have en : name = [101, 114, 114, 111, 114] := (Option.some.inj e1).symm
  subst en
  obtain rfl := Option.some.inj (rt.symm.trans e2)
  have hm : ty ∈ (List.range 132).filter fun t => Tryd.prog.rowNamed t [101, 114, 114, 111, 114] := List.mem_filter.2 ⟨List.mem_range.2 (by rw [← size]; exact e3), e4⟩
  rw [oneRow] at hm
  obtain rfl := List.mem_singleton.1 hm
  have hh : typeHandle Tryd.prog 28 = .pointer (some ⟨1, 28, none⟩) := by kernel_rfl
  rw [hh] at e5
  unfold known errT
  simpa using World.var?_cell et e5 0
/-- a world with the variable's cell laid -/
def laidIn (w : World) : World := { w with heap := w.heap.modify 0 fun
  | .cells _ t frozen => .cells #[errT] t frozen
  | o => o }
theorem laidIn_met (os : Os) (args : Array Value) : laidMetH Tryd.prog Rows.rndOfRow.laid ((laidIn (World.holding Tryd.prog os ⟨#[], #[], []⟩)).forCall (fun _ _ => 0) ⟨#[], args, []⟩).memory :=
  laidMetH_of_parts (laidMet_nil _ _) (by kernel_rfl)
set_option maxRecDepth 100000 in
theorem lifted (os : Os) (started : os.Started) (H : Type) (enc : TypeId × Value → H) :
    ReturnsInHanded {} Tryd.checked os 3 .any (fun w args => (Rows.rndOfSpec.pre enc Tryd.prog Tryd.f3 [] false w args ∧ laidMetH Tryd.prog Rows.rndOfRow.laid w) ∧ sizedMet enc Tryd.prog Tryd.f3 (OpenSpec.ofChange Rows.rndOfSpec) false w args)
      (Rows.rndOfSpec.post enc Tryd.prog Tryd.f3 false true false false) := by
  refine returnsInHanded_of_change_and (C := Tryd.checked) (X := fun w _ => laidMetH Tryd.prog Rows.rndOfRow.laid w) (fun _ _ _ hh h => h.of_heap hh) own started (by kernel_rfl) Tryd.func3
    (ChangeSpec.witness_at (enc := enc) (C := Tryd.checked) (os := os) (X := fun w _ => laidMetH Tryd.prog Rows.rndOfRow.laid w) false (laidIn (World.holding Tryd.prog os ⟨#[], #[], []⟩)) #[.int .u64 0, .int .i64 0] 8 rfl (by kernel_rfl) (by kernel_rfl) (by kernel_rfl) (by kernel_rfl) (by kernel_rfl) (laidIn_met os _)) ?_
  intro W base args ds gs before hval0 hW _ _ hL _
  have hval : ∀ (j : Nat) t v, Tryd.f3.params[j]? = some t → args[j]? = some v → Value.okWide Tryd.prog W .any base t v := hval0
  have hW' := hW
  obtain ⟨p, q, hA0, hV, rfl, hfz, hnd⟩ := hW
  have hA : DataW.TrodAll enc Tryd.prog W 0 (fun _ => true) true Tryd.f3.params.toList args.toList ds p := hA0
  rw [Tryd.params3] at hA hval
  obtain ⟨v0, v1, d0, d1, p0, p1, rfl, rfl, rfl, h0, h1⟩ := trodAll_two hA
  obtain ⟨rfl, rfl⟩ := trodVars_none hV
  obtain ⟨x0, rfl, rfl, rfl, w0⟩ := open_int Tryd.underlying22 (hval 0 22 v0 rfl rfl) h0
  obtain ⟨x1, rfl, rfl, rfl, w1⟩ := open_int Tryd.underlying3 (hval 1 3 v1 rfl rfl) h1
  clear hA0 hval0
  simp only [List.append_nil] at hW'
  refine (walk x0 x1 (u64_bounds w0) W (known_of hL)).mono fun e W' ⟨he, hg⟩ => ?_
  subst he
  exact ⟨_, rfl, post_of_same (pa := []) (pv := []) hW' (fun _ _ _ => trodAll_mk1 (shut_bool Tryd.underlying4 _))
    (fun sp _ => trodAll_mk2 (shut_int Tryd.underlying22 w0) (shut_int Tryd.underlying3 w1)) (fun _ _ => rfl) rfl
    (hg.1.frame _) (tidy_frozen hg) (ok_one (by kernel_rfl) rfl (okWide_bool_mk Tryd.underlying4 _))⟩

theorem row_holds : Rows.RndOfSaid :=
  OpenClaim.holds_of_wide 3 Tryd.f3 rfl rfl rfl rfl rfl rfl rfl ⟨rfl, rfl, rfl, rfl, rfl⟩ rfl rfl rfl rfl rfl (by kernel_rfl) Tryd.func3 (by kernel_rfl)
    (of_decide_eq_true (by kernel_rfl)) (by unfold Func.isWrapper; first | (rw [if_pos (by decide +kernel)]; kernel_rfl) | (rw [if_neg (by decide +kernel)]; exact ⟨rfl, rfl⟩))
    (fun os started H enc _ => lifted os started H enc)

theorem proved : Rows.RndOfCardSaid :=
  Claim7.holds_tied_plain_at .later [] [.handle] true (true, "d0c80d1068ebf749d39faf3ad3849c4d5fabd4f8b85f3943f1ed4bec3245ffb7") true
    row_holds (fun _ h => by cases h) (by kernel_rfl) (fun _ h => by cases h) rndOf_row_tie rfl ⟨rfl, rfl⟩ (by kernel_rfl) rfl
    (fun f fn hf hfn => by
      obtain rfl : f = 3 := Option.some.inj ((show Tryd.prog.funcNamed "tiller/tillerlaw04.RndOf" = some 3 by kernel_rfl).symm.trans hf) |>.symm
      obtain rfl : fn = Tryd.f3 := (Option.some.inj (Tryd.func3.symm.trans hfn)).symm
      exact ⟨by kernel_rfl, fun j t ht => by
        rw [Tryd.params3] at ht
        have hm : t ∈ [22, 3] := by simpa using Array.mem_of_getElem? ht
        have hall : ([22, 3].all fun u => !Tryd.prog.wantsStandIn u) = true := by kernel_rfl
        exact (show Tryd.prog.wantsStandIn t = false by simpa using List.all_eq_true.1 hall t hm)⟩)
    (by kernel_rfl)
end Go.Proofs.YtckbkjjigejeiaaDoor.rndOf
