/-
  PROVED HERE: the tied card of tillerlaw03.PatMakes: for every input the law returns true, and each argument reads afterwards as it read before: the pattern of any parts, or the error. Its condition: the variable errors.errorType holds what the program's own text lays there (tied, by the given text).
-/
import Derived.Test.YtkpmljcpjeeioaaDoorPatF
import Derived.Test.YtkpmljcpjeeioaaDoorFlat
import Derived.Test.YtkpmljcpjeeioaaDoorRows
import Derived.Test.YtkpmljcpjeeioaaDoorCards
import Derived.Test.YtkpmljcpjeeioaaDoorTie
import Derived.ChangeSame
import Derived.ChangeVars
import Derived.JoinedOf
import Derived.RowKit
import Derived.RowKitTokens
import Derived.LaidLaws
import Derived.LaidHandle
import Derived.Stop.Joined
import Derived.SevenTiedAt
namespace Go.Proofs.YtkpmljcpjeeioaaDoor.patMakes
open Go.KRun Go.Pt Go.ChangeShapes Go.WideShapes Go.ChangeAt Go.RowKit 
set_option linter.unusedVariables false

theorem m_may (m : Bool) (c e s : Int) : Fits (reckonAt (tabH Tryd.prog extY conD hcD) hK 300 3 [vP m c e s] [cmp true, cmp true, cmp true, cmp true]) (.bool true) [(0 == 0, true), (joinN m c e s == joinN m c e s, true), (decide (U s), true), (mayB m c e s, true), (decide (U s), true), (mayB m c e s, true)] := ⟨by kernel_rfl, by kernel_rfl, by kernel_rfl, by kernel_rfl⟩
theorem m_not (m : Bool) (c e s : Int) : Fits (reckonAt (tabH Tryd.prog extY conD hcD) hK 300 3 [vP m c e s] [cmp false, cmp false, cmp true, cmp true]) (.bool true) [(1 == 1, true), (Nat.beq 41 41 && Nat.beq kT kT && kOk kV, true), (0 == 0, true), (decide (U s), true), (mayB m c e s, false), (decide (U s), true), (mayB m c e s, false)] := ⟨by kernel_rfl, by kernel_rfl, by kernel_rfl, by kernel_rfl⟩

theorem walk (m : Bool) (c e s : Int) (hs : U s) (w : World) (hk : known w) : Calls Tryd.prog 3 #[vP m c e s] w fun e w' => e = .returned (.bool true) ∧ Tidy w w' := by
  have hu : decide (U s) = true := decide_eq_true hs
  have hj : (joinN m c e s == joinN m c e s) = true := by simp
  cases hm : mayB m c e s with
  | true => exact fitsAt_still (tabH_ok conD_ok hcD_ok) (m_may m c e s) (by simp only [okCs, okNl, hu, hj, hm]; decide) (by rfl) (by rfl) (startK hk)
  | false => exact fitsAt_still (tabH_ok conD_ok hcD_ok) (m_not m c e s) (okCons rfl (okCons (by kernel_rfl) (okCons rfl (okCons hu (okCons hm (okCons hu (okL1 hm))))))) (by rfl) (by rfl) (startK hk)
theorem cells0 {l : List Value} (h : okC [none, some .i64, some .i64, some .u64] l) : ∃ m c e s, l = [.bool m, .int .i64 c, .int .i64 e, .int .u64 s] ∧ (Lit.int .i64 c).wf = true ∧ (Lit.int .i64 e).wf = true ∧ (Lit.int .u64 s).wf = true := by
  have hl := okC_length h
  obtain ⟨v0, v1, v2, v3, rfl⟩ : ∃ v0 v1 v2 v3, l = [v0, v1, v2, v3] := by
    match l, hl with
    | [v0, v1, v2, v3], _ => exact ⟨v0, v1, v2, v3, rfl⟩
  obtain ⟨⟨m, rfl⟩, ⟨c, rfl, kc⟩, ⟨e, rfl, ke⟩, ⟨s, rfl, ks⟩, _⟩ := h
  exact ⟨m, c, e, s, rfl, kc, ke, ks⟩
theorem own : ownKnob Tryd.prog.godebug = none := by kernel_rfl
theorem et : Tryd.prog.globalNamed "errors.errorType" = some 0 := by kernel_rfl
theorem rt : (Tryd.prog.cutTypes.find? (·.1 == "internal/reflectlite.rtype")).map (·.2) = some 65 := by kernel_rfl
theorem oneRow : ((List.range 108).filter fun t => Tryd.prog.rowNamed t [101, 114, 114, 111, 114]) = [26] := by kernel_rfl
theorem size : Tryd.prog.types.size = 108 := by kernel_rfl
/-- what the condition gives: the variable's one cell -/
theorem known_of {W : World} (h : laidMetH Tryd.prog Rows.patMakesRow.laid W) : known W := by
  have h' : laidMet Tryd.prog [] W ∧ handlesMet Tryd.prog Rows.patMakesRow.laid W := h
  obtain ⟨name, u, ty, e1, e2, e3, e4, e5⟩ := h'.2 _ (List.mem_singleton.2 rfl)
  have en : name = [101, 114, 114, 111, 114] := (Option.some.inj e1).symm
  subst en
  obtain rfl := Option.some.inj (rt.symm.trans e2)
  have hm : ty ∈ (List.range 108).filter fun t => Tryd.prog.rowNamed t [101, 114, 114, 111, 114] := List.mem_filter.2 ⟨List.mem_range.2 (by rw [← size]; exact e3), e4⟩
  rw [oneRow] at hm
  obtain rfl := List.mem_singleton.1 hm
  have hh : typeHandle Tryd.prog 26 = .pointer (some ⟨1, 26, none⟩) := by kernel_rfl
  rw [hh] at e5
  unfold known errT
  simpa using World.var?_cell et e5 0
/-- a world with the variable's cell laid -/
def laidIn (w : World) : World := { w with heap := w.heap.modify 0 fun
  | .cells _ t frozen => .cells #[errT] t frozen
  | o => o }
theorem laidIn_met (os : Os) (args : Array Value) : laidMetH Tryd.prog Rows.patMakesRow.laid ((laidIn (World.holding Tryd.prog os ⟨#[], #[], []⟩)).forCall (fun _ _ => 0) ⟨#[], args, []⟩).memory :=
  laidMetH_of_parts (laidMet_nil _ _) (by kernel_rfl)
set_option maxRecDepth 100000 in
theorem lifted (os : Os) (started : os.Started) (H : Type) (enc : TypeId × Value → H) :
    ReturnsInHanded {} Tryd.checked os 3 .any (fun w args => (Rows.patMakesSpec.pre enc Tryd.prog Tryd.f3 [] false w args ∧ laidMetH Tryd.prog Rows.patMakesRow.laid w) ∧ sizedMet enc Tryd.prog Tryd.f3 (OpenSpec.ofChange Rows.patMakesSpec) false w args)
      (Rows.patMakesSpec.post enc Tryd.prog Tryd.f3 false true false false) := by
  refine returnsInHanded_of_change_and (C := Tryd.checked) (X := fun w _ => laidMetH Tryd.prog Rows.patMakesRow.laid w) (fun _ _ _ hh h => h.of_heap hh) own started (by kernel_rfl) Tryd.func3
    (ChangeSpec.witness_at (enc := enc) (C := Tryd.checked) (os := os) (X := fun w _ => laidMetH Tryd.prog Rows.patMakesRow.laid w) false (laidIn (World.holding Tryd.prog os ⟨#[], #[], []⟩)) #[.agg #[.bool false, .int .i64 0, .int .i64 0, .int .u64 0]] 8 rfl (by kernel_rfl) (by kernel_rfl) (by kernel_rfl) (by kernel_rfl) (by kernel_rfl) (laidIn_met os _)) ?_
  intro W base args ds gs before hval0 hW _ _ hL _
  have hval : ∀ (j : Nat) t v, Tryd.f3.params[j]? = some t → args[j]? = some v → Value.okWide Tryd.prog W .any base t v := hval0
  have hW' := hW
  obtain ⟨p, q, hA0, hV, rfl, hfz, hnd⟩ := hW
  have hA : DataW.TrodAll enc Tryd.prog W 0 (fun _ => true) true Tryd.f3.params.toList args.toList ds p := hA0
  rw [Tryd.params3] at hA hval
  obtain ⟨v0, d0, rfl, rfl, h0⟩ := trodAll_one hA
  obtain ⟨rfl, rfl⟩ := trodVars_none hV
  obtain ⟨c0, rfl, r0⟩ := flat_open (L := [none, some .i64, some .i64, some .u64]) (by kernel_rfl) h0
  obtain ⟨cs0, rfl⟩ := agg_struct Tryd.underlying24 (hval 0 24 v0 rfl rfl)
  obtain ⟨m, c, e, s, hcs0, kc, ke, ks⟩ := cells0 c0
  have hcs0' : cs0 = #[.bool m, .int .i64 c, .int .i64 e, .int .u64 s] := by
    have := congrArg List.toArray hcs0
    simpa [Value.cells] using this
  subst hcs0'
  clear hA0 hval0
  simp only [List.append_nil] at hW'
  refine (walk m c e s (u64_bounds ks) W (known_of hL)).mono fun e W' ⟨he, hg⟩ => ?_
  subst he
  exact ⟨_, rfl, post_of_same (pa := []) (pv := []) hW' (fun _ _ _ => trodAll_mk1 (shut_bool Tryd.underlying4 _))
    (fun sp _ => trodAll_mk1 (r0 _ _ _ _)) (fun _ _ => rfl) rfl
    (hg.1.frame _) (tidy_frozen hg) (ok_one (by kernel_rfl) rfl (okWide_bool_mk Tryd.underlying4 _))⟩

theorem row_holds : Rows.PatMakesSaid :=
  OpenClaim.holds_of_wide 3 Tryd.f3 rfl rfl rfl rfl rfl rfl rfl ⟨rfl, rfl, rfl, rfl, rfl⟩ rfl rfl rfl rfl rfl (by kernel_rfl) Tryd.func3 (by kernel_rfl)
    (of_decide_eq_true (by kernel_rfl)) (by unfold Func.isWrapper; first | (rw [if_pos (by decide +kernel)]; kernel_rfl) | (rw [if_neg (by decide +kernel)]; exact ⟨rfl, rfl⟩))
    (fun os started H enc _ => lifted os started H enc)

theorem proved : Rows.PatMakesCardSaid :=
  Claim7.holds_tied_plain_at .later [] [.handle] true (true, "9768ae6d528031006e565f52678c13c970639f3390f2a7619b95bf9f76cd8c1c") true
    row_holds (fun _ h => by cases h) (by kernel_rfl) (fun _ h => by cases h) patMakes_row_tie rfl ⟨rfl, rfl⟩ (by kernel_rfl) rfl
    (fun f fn hf hfn => by
      obtain rfl : f = 3 := Option.some.inj ((show Tryd.prog.funcNamed "tiller/tillerlaw03.PatMakes" = some 3 by kernel_rfl).symm.trans hf) |>.symm
      obtain rfl : fn = Tryd.f3 := (Option.some.inj (Tryd.func3.symm.trans hfn)).symm
      exact ⟨by kernel_rfl, fun j t ht => by
        rw [Tryd.params3] at ht
        have hm : t ∈ [24] := by simpa using Array.mem_of_getElem? ht
        have hall : ([24].all fun u => !Tryd.prog.wantsStandIn u) = true := by kernel_rfl
        exact (show Tryd.prog.wantsStandIn t = false by simpa using List.all_eq_true.1 hall t hm)⟩)
    (by kernel_rfl)
end Go.Proofs.YtkpmljcpjeeioaaDoor.patMakes
