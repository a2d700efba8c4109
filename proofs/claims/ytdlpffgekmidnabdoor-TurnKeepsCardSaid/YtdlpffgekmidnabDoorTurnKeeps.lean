/-
  PROVED HERE: the tied card of tillerlaw16.TurnKeeps: for every input the law returns true, and the argument reads afterwards as it read before: what is remembered answers as Root does, each point once; nothing of a nil one. Its condition: the variable errors.errorType holds what the program's own text lays there (tied, by the given text).
-/
import Derived.Test.YtdlpffgekmidnabDoorG19
import Derived.Test.YtdlpffgekmidnabDoorRows
import Derived.Test.YtdlpffgekmidnabDoorCards
import Derived.Test.YtdlpffgekmidnabDoorTie
import Derived.ChangeSame
import Derived.ChangeVars
import Derived.JoinedOf
import Derived.RowKit
import Derived.LaidLaws
import Derived.LaidHandle
import Derived.Stop.Joined
import Derived.SevenTiedAt
namespace Go.Proofs.YtdlpffgekmidnabDoor.turnKeeps
open Go.KRun Go.ChangeShapes Go.WideShapes Go.ChangeAt Go.RowKit
set_option linter.unusedVariables false
theorem own : ownKnob Tryd.prog.godebug = none := by kernel_rfl
theorem et : Tryd.prog.globalNamed "errors.errorType" = some 0 := by kernel_rfl
theorem rt : (Tryd.prog.cutTypes.find? (·.1 == "internal/reflectlite.rtype")).map (·.2) = some 69 := by kernel_rfl
theorem oneRow : ((List.range 169).filter fun t => Tryd.prog.rowNamed t [101, 114, 114, 111, 114]) = [28] := by kernel_rfl
theorem size : Tryd.prog.types.size = 169 := by kernel_rfl
/-- what the condition gives: the variable's one cell -/
theorem known_of {W : World} (h : laidMetH Tryd.prog Rows.turnKeepsRow.laid W) : known W := by
  have h' : laidMet Tryd.prog [] W ∧ handlesMet Tryd.prog Rows.turnKeepsRow.laid W := h
  obtain ⟨name, u, ty, e1, e2, e3, e4, e5⟩ := h'.2 _ (List.mem_singleton.2 rfl)
  have en : name = [101, 114, 114, 111, 114] := (Option.some.inj e1).symm
  subst en
  obtain rfl := Option.some.inj (rt.symm.trans e2)
  have hm : ty ∈ (List.range 169).filter fun t => Tryd.prog.rowNamed t [101, 114, 114, 111, 114] := List.mem_filter.2 ⟨List.mem_range.2 (by rw [← size]; exact e3), e4⟩
  rw [oneRow] at hm
  obtain rfl := List.mem_singleton.1 hm
  have hh : typeHandle Tryd.prog 28 = .pointer (some ⟨3, 28, none⟩) := by kernel_rfl
  rw [hh] at e5
  unfold known errT
  simpa using World.var?_cell et e5 0
/-- a world with the variable's cell laid -/
def laidIn (w : World) : World := { w with heap := w.heap.modify 0 fun
  | .cells _ t frozen => .cells #[errT] t frozen
  | o => o }
theorem laidIn_met (os : Os) (args : Array Value) : laidMetH Tryd.prog Rows.turnKeepsRow.laid ((laidIn (World.holding Tryd.prog os ⟨#[], #[], []⟩)).forCall (fun _ _ => 0) ⟨#[], args, []⟩).memory :=
  laidMetH_of_parts (laidMet_nil _ _) (by kernel_rfl)
theorem walk {w : World} (hk : known w) {v : Value} {x : List Value × TypeId} {k : Nat × Nat} {p : Option Addr} {n c o : Nat} {L : List Int} (Ha : ArgP w 1 v x k p n c o L) : Calls Tryd.prog 3 #[v] w fun e w' => e = .returned (.bool true) ∧ Tidy w w' := by
  have Ha' := Ha
  rcases Ha with ⟨rfl, _⟩ | ⟨b, cs, hv, hL, h2, h3, h4, rfl, rfl, rfl⟩
  · exact fitsAt_still tkT tk_nil (okPC (by decide) (okPC rfl (okPC rfl (okPC rfl (okPC rfl (okP1 (by kernel_rfl))))))) (by rfl) (by rfl) (startK hk)
  · have hX : ∀ j, j < n → (rowK .i64 cs o L)[o + j * 2]? = some (.int .i64 (L.getD (j * 2) 0)) ∧ (rowK .i64 cs o L)[o + (j * 2 + 1)]? = some (.int .i64 (L.getD (j * 2 + 1) 0)) := fun j hj => by
      obtain ⟨_, _, q1, q2, _⟩ := Ha'.get hj
      exact ⟨q1, q2⟩
    have r := calls_of_startW (T := tabH Tryd.prog extY conTK hcTK) Tryd.func3 tk_body2 (h0 := hP (rowK .i64 cs o L, askR)) (vals := [lP o n c]) (v := .bool true) (fun y hy => by rw [List.mem_singleton.1 hy]; exact Ha'.lt (by show 1 < 2; omega)) rfl (tk_runs (kz := fun j => L.getD (j * 2) 0) (mz := fun j => L.getD (j * 2 + 1) 0) hX (rowK_still _ _ _ _)) (startP hk Ha')
    rw [List.map_cons, List.map_nil, show mv (mP (b, cs.size)) (lP o n c) = v from Ha'.val (by simp [mP])] at r
    exact r
set_option maxRecDepth 100000 in
theorem lifted (os : Os) (started : os.Started) (H : Type) (enc : TypeId × Value → H) :
    ReturnsInHanded {} Tryd.checked os 3 .any (fun w args => (Rows.turnKeepsSpec.pre enc Tryd.prog Tryd.f3 [] false w args ∧ laidMetH Tryd.prog Rows.turnKeepsRow.laid w) ∧ sizedMet enc Tryd.prog Tryd.f3 (OpenSpec.ofChange Rows.turnKeepsSpec) false w args)
      (Rows.turnKeepsSpec.post enc Tryd.prog Tryd.f3 false true false false) := by
  refine returnsInHanded_of_change_and (C := Tryd.checked) (X := fun w _ => laidMetH Tryd.prog Rows.turnKeepsRow.laid w) (fun _ _ _ hh h => h.of_heap hh) own started (by kernel_rfl) Tryd.func3
    (ChangeSpec.witness_at (enc := enc) (C := Tryd.checked) (os := os) (X := fun w _ => laidMetH Tryd.prog Rows.turnKeepsRow.laid w) false (laidIn (World.holding Tryd.prog os ⟨#[], #[], []⟩)) #[.slice none 0 0] 8 rfl (by kernel_rfl) (by kernel_rfl) (by kernel_rfl) (by kernel_rfl) (by kernel_rfl) (laidIn_met os _)) ?_
  intro W base args ds gs before hval0 hW _ hsz0 hL _
  have hsz : (DataW.weightsEach Tryd.prog (Tryd.f3.params.toList ++ Rows.turnKeepsSpec.plain.varTypes Tryd.prog) (ds ++ gs)).all (· ≤ reachBytes) = true := hsz0
  have hval : ∀ (j : Nat) t v, Tryd.f3.params[j]? = some t → args[j]? = some v → Value.okWide Tryd.prog W .any base t v := hval0
  have hW' := hW
  obtain ⟨p, q, hA0, hV, rfl, hfz, hnd⟩ := hW
  have hA : DataW.TrodAll enc Tryd.prog W 0 (fun _ => true) true Tryd.f3.params.toList args.toList ds p := hA0
  rw [Tryd.params3] at hA hval hsz
  obtain ⟨v0, d0, rfl, rfl, h0⟩ := trodAll_one hA
  obtain ⟨rfl, rfl⟩ := trodVars_none hV
  obtain ⟨⟨xa, ka, qa, na, ca, oa, LA, Ha⟩, s0⟩ := argP_of 1 (hval 0 22 v0 rfl rfl) h0 (fun x y e => sized_slice hsz (j := 0) (t := 22) (e := 35) rfl (by rw [e]; rfl) ask_ty)
  refine (walk (known_of hL) Ha).mono fun e W' ⟨he, hg⟩ => ?_
  subst he
  exact ⟨_, rfl, post_of_same (pa := p) (pv := []) hW' (fun _ _ _ => trodAll_mk1 (shut_bool Tryd.underlying4 _)) (fun sp hsp => trodAll_mk1 (s0 W' sp hg fun y hy => hsp y (by simp [hy]))) (fun _ _ => rfl) rfl
    (hg.1.frame _) (tidy_frozen hg) (ok_one (by kernel_rfl) rfl (okWide_bool_mk Tryd.underlying4 _))⟩
theorem row_holds : Rows.TurnKeepsSaid :=
  OpenClaim.holds_of_wide 3 Tryd.f3 rfl rfl rfl rfl rfl rfl rfl ⟨rfl, rfl, rfl, rfl, rfl⟩ rfl rfl rfl rfl rfl (by kernel_rfl) Tryd.func3 (by kernel_rfl)
    (of_decide_eq_true (by kernel_rfl)) (by unfold Func.isWrapper; first | (rw [if_pos (by decide +kernel)]; kernel_rfl) | (rw [if_neg (by decide +kernel)]; exact ⟨rfl, rfl⟩))
    (fun os started H enc _ => lifted os started H enc)
theorem proved : Rows.TurnKeepsCardSaid :=
  Claim7.holds_tied_plain_at .later [] [.handle] true (true, "f6d87ed22a3b2be0717e45ceb4d4386c345abd1353732fb319433a730a466f3c") true
    row_holds (fun _ h => by cases h) (by kernel_rfl) (fun _ h => by cases h) turnKeeps_row_tie rfl ⟨rfl, rfl⟩ (by kernel_rfl) rfl
    (fun f fn hf hfn => by
      obtain rfl : f = 3 := Option.some.inj ((show Tryd.prog.funcNamed "tiller/tillerlaw16.TurnKeeps" = some 3 by kernel_rfl).symm.trans hf) |>.symm
      obtain rfl : fn = Tryd.f3 := (Option.some.inj (Tryd.func3.symm.trans hfn)).symm
      exact ⟨by kernel_rfl, fun j t ht => by
        rw [Tryd.params3] at ht
        have hm : t ∈ [22] := by simpa using Array.mem_of_getElem? ht
        have hall : ([22].all fun u => !Tryd.prog.wantsStandIn u) = true := by kernel_rfl
        exact (show Tryd.prog.wantsStandIn t = false by simpa using List.all_eq_true.1 hall t hm)⟩)
    (by kernel_rfl)
end Go.Proofs.YtdlpffgekmidnabDoor.turnKeeps
