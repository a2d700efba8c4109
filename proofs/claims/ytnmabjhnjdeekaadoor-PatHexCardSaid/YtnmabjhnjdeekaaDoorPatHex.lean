/-
  PROVED HERE: the tied card of tillerlaw03.PatHex: for every input the law returns true, and each argument reads afterwards as it read before: the digits of any pattern; the pattern of any digits, or the error. Its condition: the variable errors.errorType holds what the program's own text lays there (tied, by the given text).
-/
import Derived.Test.YtnmabjhnjdeekaaDoorPhG
import Derived.Test.YtnmabjhnjdeekaaDoorFlat
import Derived.Test.YtnmabjhnjdeekaaDoorRows
import Derived.Test.YtnmabjhnjdeekaaDoorCards
import Derived.Test.YtnmabjhnjdeekaaDoorTie
import Derived.ChangeMaps5
import Derived.ChangeSame
import Derived.ChangeVars
import Derived.JoinedOf
import Derived.RowKit
import Derived.RowKitTokens
import Derived.LaidLaws
import Derived.LaidHandle
import Derived.Stop.Joined
import Derived.SevenTiedAt
namespace Go.Proofs.YtnmabjhnjdeekaaDoor.patHex
open Go.KRun Go.Pt Go.ChangeShapes Go.WideShapes Go.ChangeAt Go.RowKit 
set_option linter.unusedVariables false

theorem h_may (p : Int) (s : ByteArray) : Fits (reckonAt (tabH Tryd.prog extY conX hcX) hK 900 3 [.int .u64 p, .string s] [cmp true, cmp true, cmp true, sam true, cmp true, cmp true, cmp true]) (.bool true) [(phN (hxW p) 16 == p, true), (true, true), (phN s s.size == phN s s.size, true), (hxW p == hxW p, true), (decide (U p), true), (decide (U p), true), (phB (hxW p), true), (decide (U p), true), (phB s, true), (phB s, true)] := ⟨by kernel_rfl, by kernel_rfl, by kernel_rfl, by kernel_rfl⟩
theorem h_not (p : Int) (s : ByteArray) : Fits (reckonAt (tabH Tryd.prog extY conX hcX) hK 900 3 [.int .u64 p, .string s] [cmp false, cmp false, cmp true, sam true, cmp true, cmp true, cmp true]) (.bool true) [(phN (hxW p) 16 == p, true), (true, true), (Nat.beq 33 33 && Nat.beq kT kT && kOk kV, true), (true, true), (hxW p == hxW p, true), (decide (U p), true), (decide (U p), true), (phB (hxW p), true), (decide (U p), true), (phB s, false), (phB s, false)] := ⟨by kernel_rfl, by kernel_rfl, by kernel_rfl, by kernel_rfl⟩
theorem walk (p : Int) (hp : U p) (s : ByteArray) (w : World) (hk : known w) : Calls Tryd.prog 3 #[.int .u64 p, .string s] w fun e w' => e = .returned (.bool true) ∧ Tidy w w' := by
  have hu : decide (U p) = true := decide_eq_true hp
  have h1 : (phN (hxW p) 16 == p) = true := by rw [hex_num hp]; simp
  have h2 : (hxW p == hxW p) = true := by rw [beq_toListBytes]; simp
  have h3 : phB (hxW p) = true := by exact phB_ok (hex_ok hp)
  cases hs : phB s with
  | true => exact fitsAt_still (tabH_ok conX_ok hcX_ok) (h_may p s) (okCons h1 (okCons rfl (okCons (by simp) (okCons h2 (okCons hu (okCons hu (okCons h3 (okCons hu (okCons hs (okL1 hs)))))))))) (by rfl) (by rfl) (startK hk)
  | false => exact fitsAt_still (tabH_ok conX_ok hcX_ok) (h_not p s) (okCons h1 (okCons rfl (okCons (by kernel_rfl) (okCons rfl (okCons h2 (okCons hu (okCons hu (okCons h3 (okCons hu (okCons hs (okL1 hs))))))))))) (by rfl) (by rfl) (startK hk)
theorem own : ownKnob Tryd.prog.godebug = none := by kernel_rfl
theorem et : Tryd.prog.globalNamed "errors.errorType" = some 0 := by kernel_rfl
theorem rt : (Tryd.prog.cutTypes.find? (·.1 == "internal/reflectlite.rtype")).map (·.2) = some 59 := by kernel_rfl
theorem oneRow : ((List.range 103).filter fun t => Tryd.prog.rowNamed t [101, 114, 114, 111, 114]) = [24] := by kernel_rfl
theorem size : Tryd.prog.types.size = 103 := by kernel_rfl
/-- what the condition gives: the variable's one cell -/
theorem known_of {W : World} (h : laidMetH Tryd.prog Rows.patHexRow.laid W) : known W := by
  have h' : laidMet Tryd.prog [] W ∧ handlesMet Tryd.prog Rows.patHexRow.laid W := h
  obtain ⟨name, u, ty, e1, e2, e3, e4, e5⟩ := h'.2 _ (List.mem_singleton.2 rfl)
  have en : name = [101, 114, 114, 111, 114] := (Option.some.inj e1).symm
  subst en
  obtain rfl := Option.some.inj (rt.symm.trans e2)
  have hm : ty ∈ (List.range 103).filter fun t => Tryd.prog.rowNamed t [101, 114, 114, 111, 114] := List.mem_filter.2 ⟨List.mem_range.2 (by rw [← size]; exact e3), e4⟩
  rw [oneRow] at hm
  obtain rfl := List.mem_singleton.1 hm
  have hh : typeHandle Tryd.prog 24 = .pointer (some ⟨1, 24, none⟩) := by kernel_rfl
  rw [hh] at e5
  unfold known errT
  simpa using World.var?_cell et e5 0
/-- a world with the variable's cell laid -/
def laidIn (w : World) : World := { w with heap := w.heap.modify 0 fun
  | .cells _ t frozen => .cells #[errT] t frozen
  | o => o }
theorem laidIn_met (os : Os) (args : Array Value) : laidMetH Tryd.prog Rows.patHexRow.laid ((laidIn (World.holding Tryd.prog os ⟨#[], #[], []⟩)).forCall (fun _ _ => 0) ⟨#[], args, []⟩).memory :=
  laidMetH_of_parts (laidMet_nil _ _) (by kernel_rfl)
set_option maxRecDepth 100000 in
theorem lifted (os : Os) (started : os.Started) (H : Type) (enc : TypeId × Value → H) :
    ReturnsInHanded {} Tryd.checked os 3 .any (fun w args => (Rows.patHexSpec.pre enc Tryd.prog Tryd.f3 [] false w args ∧ laidMetH Tryd.prog Rows.patHexRow.laid w) ∧ sizedMet enc Tryd.prog Tryd.f3 (OpenSpec.ofChange Rows.patHexSpec) false w args)
      (Rows.patHexSpec.post enc Tryd.prog Tryd.f3 false true false false) := by
  refine returnsInHanded_of_change_and (C := Tryd.checked) (X := fun w _ => laidMetH Tryd.prog Rows.patHexRow.laid w) (fun _ _ _ hh h => h.of_heap hh) own started (by kernel_rfl) Tryd.func3
    (ChangeSpec.witness_at (enc := enc) (C := Tryd.checked) (os := os) (X := fun w _ => laidMetH Tryd.prog Rows.patHexRow.laid w) false (laidIn (World.holding Tryd.prog os ⟨#[], #[], []⟩)) #[.int .u64 0, .string ⟨#[]⟩] 8 rfl (by kernel_rfl) (by kernel_rfl) (by kernel_rfl) (by kernel_rfl) (by kernel_rfl) (laidIn_met os _)) ?_
  intro W base args ds gs before hval0 hW _ _ hL _
  have hval : ∀ (j : Nat) t v, Tryd.f3.params[j]? = some t → args[j]? = some v → Value.okWide Tryd.prog W .any base t v := hval0
  have hW' := hW
  obtain ⟨p, q, hA0, hV, rfl, hfz, hnd⟩ := hW
  have hA : DataW.TrodAll enc Tryd.prog W 0 (fun _ => true) true Tryd.f3.params.toList args.toList ds p := hA0
  rw [Tryd.params3] at hA hval
  obtain ⟨v0, v1, d0, d1, p0, p1, rfl, rfl, rfl, h0, h1⟩ := trodAll_two hA
  obtain ⟨rfl, rfl⟩ := trodVars_none hV
  obtain ⟨x0, rfl, rfl, rfl, w0⟩ := open_int Tryd.underlying22 (hval 0 22 v0 rfl rfl) h0
  obtain ⟨s1, rfl, rfl, rfl, z1⟩ := Go.ChangeMaps.open_string Tryd.underlying9 (hval 1 9 v1 rfl rfl) h1
  clear hA0 hval0
  simp only [List.append_nil] at hW'
  refine (walk x0 (u64_bounds w0) s1 W (known_of hL)).mono fun e W' ⟨he, hg⟩ => ?_
  subst he
  exact ⟨_, rfl, post_of_same (pa := []) (pv := []) hW' (fun _ _ _ => trodAll_mk1 (shut_bool Tryd.underlying4 _))
    (fun sp _ => trodAll_mk2 (shut_int Tryd.underlying22 w0) (Go.ChangeMaps.shut_string Tryd.underlying9 z1)) (fun _ _ => rfl) rfl
    (hg.1.frame _) (tidy_frozen hg) (ok_one (by kernel_rfl) rfl (okWide_bool_mk Tryd.underlying4 _))⟩

theorem row_holds : Rows.PatHexSaid :=
  OpenClaim.holds_of_wide 3 Tryd.f3 rfl rfl rfl rfl rfl rfl rfl ⟨rfl, rfl, rfl, rfl, rfl⟩ rfl rfl rfl rfl rfl (by kernel_rfl) Tryd.func3 (by kernel_rfl)
    (of_decide_eq_true (by kernel_rfl)) (by unfold Func.isWrapper; first | (rw [if_pos (by decide +kernel)]; kernel_rfl) | (rw [if_neg (by decide +kernel)]; exact ⟨rfl, rfl⟩))
    (fun os started H enc _ => lifted os started H enc)

theorem proved : Rows.PatHexCardSaid :=
  Claim7.holds_tied_plain_at .later [] [.handle] true (true, "0d258061f6a6291468e717149cc0a612782f53b346bfbce53ceced500a92bb2e") true
    row_holds (fun _ h => by cases h) (by kernel_rfl) (fun _ h => by cases h) patHex_row_tie rfl ⟨rfl, rfl⟩ (by kernel_rfl) rfl
    (fun f fn hf hfn => by
      obtain rfl : f = 3 := Option.some.inj ((show Tryd.prog.funcNamed "tiller/tillerlaw03.PatHex" = some 3 by kernel_rfl).symm.trans hf) |>.symm
      obtain rfl : fn = Tryd.f3 := (Option.some.inj (Tryd.func3.symm.trans hfn)).symm
      exact ⟨by kernel_rfl, fun j t ht => by
        rw [Tryd.params3] at ht
        have hm : t ∈ [22, 9] := by simpa using Array.mem_of_getElem? ht
        have hall : ([22, 9].all fun u => !Tryd.prog.wantsStandIn u) = true := by kernel_rfl
        exact (show Tryd.prog.wantsStandIn t = false by simpa using List.all_eq_true.1 hall t hm)⟩)
    (by kernel_rfl)
end Go.Proofs.YtnmabjhnjdeekaaDoor.patHex
