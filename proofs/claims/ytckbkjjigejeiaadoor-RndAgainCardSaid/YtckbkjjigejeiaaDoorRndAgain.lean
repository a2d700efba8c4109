/-
  PROVED HERE: the tied card of tillerlaw04.RndAgain: for every input the law returns true, and each argument reads afterwards as it read before: what was rounded is rounded to itself, by every mode, without flags. Its condition: the variable errors.errorType holds what the program's own text lays there (tied, by the given text).
-/
import Derived.Test.YtckbkjjigejeiaaDoorRnF
import Derived.Test.YtckbkjjigejeiaaDoorFlat
import Derived.Test.YtckbkjjigejeiaaDoorRows
import Derived.Test.YtckbkjjigejeiaaDoorCards
import Derived.Test.YtckbkjjigejeiaaDoorTie
import Derived.ChangeSame
import Derived.ChangeVars
import Derived.JoinedOf
import Derived.RowKit
import Derived.RowKitTokens
import Derived.LaidLaws
import Derived.LaidHandle
import Derived.Stop.Joined
import Derived.SevenTiedAt
namespace Go.Proofs.YtckbkjjigejeiaaDoor.rndAgain
open Go.KRun Go.Pt Go.ChangeShapes Go.WideShapes Go.ChangeAt Go.RowKit Go.Wd Go.Rn
set_option linter.unusedVariables false

theorem a_not (n b : Bool) (x : W4) (ex m o : Int) : Fits (reckonAt (tabH Tryd.prog extY conRP hcRP) hK 300 4 [vN n ex x b, .int .i64 m, .int .i64 o] [cmp false, cmp true, cmp true]) (.bool true) [(1 == 1, true), (Nat.beq 47 47 && Nat.beq kT kT && kOk kV, true), (bNot (sS n (rnP m n (tw x b) (clp ex - 1))) 9223372036854775808 == 9218868437227405312, true), (decide (cl (sS n (rnP m n (tw x b) (clp ex - 1))) ≤ 2), false), (decide (U (sS n (rnP m n (tw x b) (clp ex - 1)))), true), (decide x.ok, true)] := ⟨by kernel_rfl, by kernel_rfl, by kernel_rfl, by kernel_rfl⟩
theorem a_fin (n b : Bool) (x : W4) (ex m o : Int) : Fits (reckonAt (tabH Tryd.prog extY conRP hcRP) hK 300 4 [vN n ex x b, .int .i64 m, .int .i64 o] [cmp true, cmp true, cmp true]) (.bool true) [(rnF o (sgn (sS n (rnP m n (tw x b) (clp ex - 1)))) (tw (wSg (sS n (rnP m n (tw x b) (clp ex - 1)))) false) (clp (xp (sS n (rnP m n (tw x b) (clp ex - 1)))) - 1) == 0, true), (sS (sgn (sS n (rnP m n (tw x b) (clp ex - 1)))) (rnP o (sgn (sS n (rnP m n (tw x b) (clp ex - 1)))) (tw (wSg (sS n (rnP m n (tw x b) (clp ex - 1)))) false) (clp (xp (sS n (rnP m n (tw x b) (clp ex - 1)))) - 1)) == (sS n (rnP m n (tw x b) (clp ex - 1))), true), (decide (wSg (sS n (rnP m n (tw x b) (clp ex - 1)))).ok, true), (decide (U (sS n (rnP m n (tw x b) (clp ex - 1)))), true), (decide (cl (sS n (rnP m n (tw x b) (clp ex - 1))) ≤ 2), true), (decide (U (sS n (rnP m n (tw x b) (clp ex - 1)))), true), (decide x.ok, true)] := ⟨by kernel_rfl, by kernel_rfl, by kernel_rfl, by kernel_rfl⟩
theorem walk (n b : Bool) (x : W4) (ex m o : Int) (hx : x.ok) (w : World) (hk : known w) : Calls Tryd.prog 4 #[vN n ex x b, .int .i64 m, .int .i64 o] w fun e w' => e = .returned (.bool true) ∧ Tidy w w' := by
  have kx : decide x.ok = true := decide_eq_true hx
  have hb := rnP_bd m n (tw x b) (clp ex - 1)
  have hU : U (sS n (rnP m n (tw x b) (clp ex - 1))) := sS_U hb
  have hu : decide (U (sS n (rnP m n (tw x b) (clp ex - 1)))) = true := decide_eq_true hU
  by_cases hc : cl (sS n (rnP m n (tw x b) (clp ex - 1))) ≤ 2
  · obtain ⟨h1, h2⟩ := own_round hU hc o
    have k1 : decide (cl (sS n (rnP m n (tw x b) (clp ex - 1))) ≤ 2) = true := decide_eq_true hc
    exact fitsAt_still (tabH_ok conRP_ok hcRP_ok) (a_fin n b x ex m o) (okCons (by rw [h1]; rfl) (okCons (by rw [h2]; simp) (okCons (decide_eq_true (wSg_ok _)) (okCons hu (okCons k1 (okCons hu (okL1 kx))))))) (by rfl) (by rfl) (startK hk)
  · have k1 : decide (cl (sS n (rnP m n (tw x b) (clp ex - 1))) ≤ 2) = false := decide_eq_false hc
    have hr := end_of hb hc
    exact fitsAt_still (tabH_ok conRP_ok hcRP_ok) (a_not n b x ex m o) (okCons rfl (okCons (by kernel_rfl) (okCons (by rw [bNot_sS hb, hr]; rfl) (okCons k1 (okCons hu (okL1 kx)))))) (by rfl) (by rfl) (startK hk)
theorem cells0 {l : List Value} (h : okC [none, some .i64, some .u64, some .u64, some .u64, some .u64, none] l) : ∃ n ex xa xb xc xd b, l = [.bool n, .int .i64 ex, .int .u64 xa, .int .u64 xb, .int .u64 xc, .int .u64 xd, .bool b] ∧ (Lit.int .i64 ex).wf = true ∧ (Lit.int .u64 xa).wf = true ∧ (Lit.int .u64 xb).wf = true ∧ (Lit.int .u64 xc).wf = true ∧ (Lit.int .u64 xd).wf = true := by
  have hl := okC_length h
  obtain ⟨v0, v1, v2, v3, v4, v5, v6, rfl⟩ : ∃ v0 v1 v2 v3 v4 v5 v6, l = [v0, v1, v2, v3, v4, v5, v6] := by
    match l, hl with
    | [v0, v1, v2, v3, v4, v5, v6], _ => exact ⟨v0, v1, v2, v3, v4, v5, v6, rfl⟩
  obtain ⟨⟨n, rfl⟩, ⟨ex, rfl, kex⟩, ⟨xa, rfl, kxa⟩, ⟨xb, rfl, kxb⟩, ⟨xc, rfl, kxc⟩, ⟨xd, rfl, kxd⟩, ⟨b, rfl⟩, _⟩ := h
  exact ⟨n, ex, xa, xb, xc, xd, b, rfl, kex, kxa, kxb, kxc, kxd⟩
theorem own : ownKnob Tryd.prog.godebug = none := by kernel_rfl
theorem et : Tryd.prog.globalNamed "errors.errorType" = some 0 := by kernel_rfl
theorem rt : (Tryd.prog.cutTypes.find? (·.1 == "internal/reflectlite.rtype")).map (·.2) = some 84 := by kernel_rfl
theorem oneRow : ((List.range 132).filter fun t => Tryd.prog.rowNamed t [101, 114, 114, 111, 114]) = [28] := by kernel_rfl
theorem size : Tryd.prog.types.size = 132 := by kernel_rfl
/-- what the condition gives: the variable's one cell -/
theorem known_of {W : World} (h : laidMetH Tryd.prog Rows.rndAgainRow.laid W) : known W := by
  have h' : laidMet Tryd.prog [] W ∧ handlesMet Tryd.prog Rows.rndAgainRow.laid W := h
  obtain ⟨name, u, ty, e1, e2, e3, e4, e5⟩ := h'.2 _ (List.mem_singleton.2 rfl)
  have en : name = [101, 114, 114, 111, 114] := (Option.some.inj e1).symm
  subst en
  obtain rfl := Option.some.inj (rt.symm.trans e2)
  have hm : ty ∈ (List.range 132).filter fun t => Tryd.prog.rowNamed t [101, 114, 114, 111, 114] := List.mem_filter.2 ⟨List.mem_range.2 (by rw [← size]; exact e3), e4⟩
  rw [oneRow] at hm
  obtain rfl := List.mem_singleton.1 hm
  have hh : typeHandle Tryd.prog 28 = .pointer (some ⟨1, 28, none⟩) := by kernel_rfl
  rw [hh] at e5
  unfold known errT
  simpa using World.var?_cell et e5 0
/-- a world with the variable's cell laid -/
def laidIn (w : World) : World := { w with heap := w.heap.modify 0 fun
  | .cells _ t frozen => .cells #[errT] t frozen
  | o => o }
theorem laidIn_met (os : Os) (args : Array Value) : laidMetH Tryd.prog Rows.rndAgainRow.laid ((laidIn (World.holding Tryd.prog os ⟨#[], #[], []⟩)).forCall (fun _ _ => 0) ⟨#[], args, []⟩).memory :=
  laidMetH_of_parts (laidMet_nil _ _) (by kernel_rfl)
set_option maxRecDepth 100000 in
theorem lifted (os : Os) (started : os.Started) (H : Type) (enc : TypeId × Value → H) :
    ReturnsInHanded {} Tryd.checked os 4 .any (fun w args => (Rows.rndAgainSpec.pre enc Tryd.prog Tryd.f4 [] false w args ∧ laidMetH Tryd.prog Rows.rndAgainRow.laid w) ∧ sizedMet enc Tryd.prog Tryd.f4 (OpenSpec.ofChange Rows.rndAgainSpec) false w args)
      (Rows.rndAgainSpec.post enc Tryd.prog Tryd.f4 false true false false) := by
  refine returnsInHanded_of_change_and (C := Tryd.checked) (X := fun w _ => laidMetH Tryd.prog Rows.rndAgainRow.laid w) (fun _ _ _ hh h => h.of_heap hh) own started (by kernel_rfl) Tryd.func4
    (ChangeSpec.witness_at (enc := enc) (C := Tryd.checked) (os := os) (X := fun w _ => laidMetH Tryd.prog Rows.rndAgainRow.laid w) false (laidIn (World.holding Tryd.prog os ⟨#[], #[], []⟩)) #[.agg #[.bool false, .int .i64 0, .int .u64 0, .int .u64 0, .int .u64 0, .int .u64 0, .bool false], .int .i64 0, .int .i64 0] 8 rfl (by kernel_rfl) (by kernel_rfl) (by kernel_rfl) (by kernel_rfl) (by kernel_rfl) (laidIn_met os _)) ?_
  intro W base args ds gs before hval0 hW _ _ hL _
  have hval : ∀ (j : Nat) t v, Tryd.f4.params[j]? = some t → args[j]? = some v → Value.okWide Tryd.prog W .any base t v := hval0
  have hW' := hW
  obtain ⟨p, q, hA0, hV, rfl, hfz, hnd⟩ := hW
  have hA : DataW.TrodAll enc Tryd.prog W 0 (fun _ => true) true Tryd.f4.params.toList args.toList ds p := hA0
  rw [Tryd.params4] at hA hval
  obtain ⟨v0, v1, v2, d0, d1, d2, p0, p1, p2, rfl, rfl, rfl, h0, h1, h2⟩ := trodAll_three hA
  obtain ⟨rfl, rfl⟩ := trodVars_none hV
  obtain ⟨c0, rfl, r0⟩ := flat_open (L := [none, some .i64, some .u64, some .u64, some .u64, some .u64, none]) (by kernel_rfl) h0
  obtain ⟨cs0, rfl⟩ := agg_struct Tryd.underlying44 (hval 0 44 v0 rfl rfl)
  obtain ⟨n, ex, xa, xb, xc, xd, b, hcs0, kex, kxa, kxb, kxc, kxd⟩ := cells0 c0
  have hcs0' : cs0 = #[.bool n, .int .i64 ex, .int .u64 xa, .int .u64 xb, .int .u64 xc, .int .u64 xd, .bool b] := by
    have := congrArg List.toArray hcs0
    simpa [Value.cells] using this
  subst hcs0'
  obtain ⟨x1, rfl, rfl, rfl, w1⟩ := open_int Tryd.underlying3 (hval 1 3 v1 rfl rfl) h1
  obtain ⟨x2, rfl, rfl, rfl, w2⟩ := open_int Tryd.underlying3 (hval 2 3 v2 rfl rfl) h2
  clear hA0 hval0
  simp only [List.append_nil] at hW'
  refine (walk n b ⟨xa, xb, xc, xd⟩ ex x1 x2 (w4_ok kxa kxb kxc kxd u64_bounds) W (known_of hL)).mono fun e W' ⟨he, hg⟩ => ?_
  subst he
  exact ⟨_, rfl, post_of_same (pa := []) (pv := []) hW' (fun _ _ _ => trodAll_mk1 (shut_bool Tryd.underlying4 _))
    (fun sp _ => trodAll_mk3 (r0 _ _ _ _) (shut_int Tryd.underlying3 w1) (shut_int Tryd.underlying3 w2)) (fun _ _ => rfl) rfl
    (hg.1.frame _) (tidy_frozen hg) (ok_one (by kernel_rfl) rfl (okWide_bool_mk Tryd.underlying4 _))⟩

theorem row_holds : Rows.RndAgainSaid :=
  OpenClaim.holds_of_wide 4 Tryd.f4 rfl rfl rfl rfl rfl rfl rfl ⟨rfl, rfl, rfl, rfl, rfl⟩ rfl rfl rfl rfl rfl (by kernel_rfl) Tryd.func4 (by kernel_rfl)
    (of_decide_eq_true (by kernel_rfl)) (by unfold Func.isWrapper; first | (rw [if_pos (by decide +kernel)]; kernel_rfl) | (rw [if_neg (by decide +kernel)]; exact ⟨rfl, rfl⟩))
    (fun os started H enc _ => lifted os started H enc)

theorem proved : Rows.RndAgainCardSaid :=
  Claim7.holds_tied_plain_at .later [] [.handle] true (true, "d0c80d1068ebf749d39faf3ad3849c4d5fabd4f8b85f3943f1ed4bec3245ffb7") true
    row_holds (fun _ h => by cases h) (by kernel_rfl) (fun _ h => by cases h) rndAgain_row_tie rfl ⟨rfl, rfl⟩ (by kernel_rfl) rfl
    (fun f fn hf hfn => by
      obtain rfl : f = 4 := Option.some.inj ((show Tryd.prog.funcNamed "tiller/tillerlaw04.RndAgain" = some 4 by kernel_rfl).symm.trans hf) |>.symm
      obtain rfl : fn = Tryd.f4 := (Option.some.inj (Tryd.func4.symm.trans hfn)).symm
      exact ⟨by kernel_rfl, fun j t ht => by
        rw [Tryd.params4] at ht
        have hm : t ∈ [44, 3, 3] := by simpa using Array.mem_of_getElem? ht
        have hall : ([44, 3, 3].all fun u => !Tryd.prog.wantsStandIn u) = true := by kernel_rfl
        exact (show Tryd.prog.wantsStandIn t = false by simpa using List.all_eq_true.1 hall t hm)⟩)
    (by kernel_rfl)
end Go.Proofs.YtckbkjjigejeiaaDoor.rndAgain
