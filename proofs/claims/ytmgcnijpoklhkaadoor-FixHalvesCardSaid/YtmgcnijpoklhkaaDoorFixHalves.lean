/-
  PROVED HERE: the tied card of tillerlaw15.FixHalves: for every input the law returns true, and each argument reads afterwards as it read before: times a half is moved down by one; times 1 it stays; a number parted by itself is 1, and by nothing the error. Its condition: the variable errors.errorType holds what the program's own text lays there (tied, by the given text).
-/
import Derived.Test.YtmgcnijpoklhkaaDoorG11
import Derived.Test.YtmgcnijpoklhkaaDoorRows
import Derived.Test.YtmgcnijpoklhkaaDoorCards
import Derived.Test.YtmgcnijpoklhkaaDoorTie
import Derived.ChangeSame
import Derived.ChangeVars
import Derived.JoinedOf
import Derived.RowKit
import Derived.LaidLaws
import Derived.LaidHandle
import Derived.Stop.Joined
import Derived.SevenTiedAt
namespace Go.Proofs.YtmgcnijpoklhkaaDoor.fixHalves
open Go.KRun Go.Pt Go.ChangeShapes Go.WideShapes Go.ChangeAt Go.RowKit Go.Wd
set_option linter.unusedVariables false
set_option maxRecDepth 100000
def hcNu : Hc := altH 10 gNum hcN
theorem hcNu_ok : HcOk hcNu := altH_ok Tryd.func10 rfl gNum_ok hcN_ok
def hfW : W4 := W4.of (foI 1 2)
theorem hv_n (a : W4) (n : Int) : Fits (reckonAt (tabH Tryd.prog extY conF5 hcNu) hK 600 5 [vW a, .int .u64 n] [cmp false, cmp false, cmp false, cmp false, cmp false, cmp false, sam true, sam true, cmp false, sam true]) (.bool true) [(eqW (W4.of (foI n n)) oneW, true), (n == 0, false), (eqW (W4.of (fmI a oneW)) a, true), (eqW (W4.of (fmI a hfW)) (shrW a 1), true), (decide (115792089237316195423570985008687907853269984665640564039457584007913129639936 ≤ foI n n), false), (decide (n = 0), false), (decide (uu n n), true), (decide (115792089237316195423570985008687907853269984665640564039457584007913129639936 ≤ fmI a oneW), false), q2 a oneW, (decide (115792089237316195423570985008687907853269984665640564039457584007913129639936 ≤ fmI a oneW), false), q2 a oneW, (decide (115792089237316195423570985008687907853269984665640564039457584007913129639936 ≤ fmI a oneW), false), q2 a oneW, qk a 1, (decide (115792089237316195423570985008687907853269984665640564039457584007913129639936 ≤ fmI a hfW), false), q2 a hfW, (decide (115792089237316195423570985008687907853269984665640564039457584007913129639936 ≤ foI 1 2), false), (decide ((2 : Int) = 0), false), (decide (uu 1 2), true)] := ⟨by kernel_rfl, by kernel_rfl, by kernel_rfl, by kernel_rfl⟩
theorem hv_z (a : W4) (n : Int) : Fits (reckonAt (tabH Tryd.prog extY conF5 hcNu) hK 600 5 [vW a, .int .u64 n] [cmp false, cmp false, cmp false, cmp false, cmp true, sam true, sam true, cmp true]) (.bool true) [(Nat.beq 57 57 && Nat.beq kT kT && kOk kV, true), (n == 0, true), (eqW (W4.of (fmI a oneW)) a, true), (eqW (W4.of (fmI a hfW)) (shrW a 1), true), (decide (n = 0), true), (decide (uu n n), true), (decide (115792089237316195423570985008687907853269984665640564039457584007913129639936 ≤ fmI a oneW), false), q2 a oneW, (decide (115792089237316195423570985008687907853269984665640564039457584007913129639936 ≤ fmI a oneW), false), q2 a oneW, (decide (115792089237316195423570985008687907853269984665640564039457584007913129639936 ≤ fmI a oneW), false), q2 a oneW, qk a 1, (decide (115792089237316195423570985008687907853269984665640564039457584007913129639936 ≤ fmI a hfW), false), q2 a hfW, (decide (115792089237316195423570985008687907853269984665640564039457584007913129639936 ≤ foI 1 2), false), (decide ((2 : Int) = 0), false), (decide (uu 1 2), true)] := ⟨by kernel_rfl, by kernel_rfl, by kernel_rfl, by kernel_rfl⟩
theorem walk (a : W4) (n : Int) (ha : a.ok) (hn0 : 0 ≤ n ∧ n < 18446744073709551616) (w : World) (hk : known w) : Calls Tryd.prog 5 #[vW a, .int .u64 n] w fun e w' => e = .returned (.bool true) ∧ Tidy w w' := by
  have hv : ([vW a, .int .u64 n].all (lt 0)) = true := rfl
  have T := tabH_ok conF5_ok hcNu_ok
  have ba := W4.val_bd ha
  have vo : oneW.val = 452312848583266388373324160190187140051835877600158453279131187530910662656 := by rfl
  have vh : hfW.val = 226156424291633194186662080095093570025917938800079226639565593765455331328 := by
    unfold hfW
    rw [show foI 1 2 = 226156424291633194186662080095093570025917938800079226639565593765455331328 by decide +kernel, W4.val_of]
    rfl
  have f1 : fmI a oneW = a.val := by unfold fmI; rw [vo]; omega
  have fh : fmI a hfW = a.val / 2 := by unfold fmI; rw [vh]; omega
  have hM1 : decide (115792089237316195423570985008687907853269984665640564039457584007913129639936 ≤ fmI a oneW) = false := decide_eq_false (by rw [f1]; omega)
  have hMh : decide (115792089237316195423570985008687907853269984665640564039457584007913129639936 ≤ fmI a hfW) = false := decide_eq_false (by rw [fh]; omega)
  have okh : hfW.ok := W4.ok_of _
  have q1 : (q2 a oneW).1 = (q2 a oneW).2 := decide_eq_true ⟨ha, oneW_ok⟩
  have qh : (q2 a hfW).1 = (q2 a hfW).2 := decide_eq_true ⟨ha, okh⟩
  have qs : (qk a 1).1 = (qk a 1).2 := decide_eq_true ⟨ha, by decide, by decide⟩
  have e1 : eqW (W4.of (fmI a oneW)) a = true := eqW_iff.2 (by rw [f1, W4.of_val ha])
  have eh : eqW (W4.of (fmI a hfW)) (shrW a 1) = true := eqW_iff.2 (by
    rw [fh]
    unfold shrW
    rw [if_neg (by decide), if_neg (by decide)]
    rfl)
  have un : decide (uu n n) = true := decide_eq_true ⟨hn0, hn0⟩
  by_cases hn : n = 0
  · exact fitsAt_still T (hv_z a n) (okPC (by kernel_rfl) (okPC (by simpa using hn) (okPC e1 (okPC eh (okPC (decide_eq_true hn) (okPC un (okPC hM1 (okPC q1 (okPC hM1 (okPC q1 (okPC hM1 (okPC q1 (okPC qs (okPC hMh (okPC qh (okPC (by decide +kernel) (okPC (by decide) (okP1 (by decide))))))))))))))))))) hv (by rfl) (startK hk)
  · have fn : foI n n = 452312848583266388373324160190187140051835877600158453279131187530910662656 := by
      unfold foI
      rw [Int.mul_comm]
      exact Int.mul_ediv_cancel _ hn
    have hMn : decide (115792089237316195423570985008687907853269984665640564039457584007913129639936 ≤ foI n n) = false := decide_eq_false (by rw [fn]; decide)
    have en : eqW (W4.of (foI n n)) oneW = true := by rw [fn]; decide +kernel
    exact fitsAt_still T (hv_n a n) (okPC en (okPC (by simpa using hn) (okPC e1 (okPC eh (okPC hMn (okPC (decide_eq_false hn) (okPC un (okPC hM1 (okPC q1 (okPC hM1 (okPC q1 (okPC hM1 (okPC q1 (okPC qs (okPC hMh (okPC qh (okPC (by decide +kernel) (okPC (by decide) (okP1 (by decide)))))))))))))))))))) hv (by rfl) (startK hk)
theorem cells0 {l : List Value} (h : okC [some .u64, some .u64, some .u64, some .u64] l) : ∃ aa ab ac ad, l = [.int .u64 aa, .int .u64 ab, .int .u64 ac, .int .u64 ad] ∧ (Lit.int .u64 aa).wf = true ∧ (Lit.int .u64 ab).wf = true ∧ (Lit.int .u64 ac).wf = true ∧ (Lit.int .u64 ad).wf = true := by
  have hl := okC_length h
  obtain ⟨v0, v1, v2, v3, rfl⟩ : ∃ v0 v1 v2 v3, l = [v0, v1, v2, v3] := by
    match l, hl with
    | [v0, v1, v2, v3], _ => exact ⟨v0, v1, v2, v3, rfl⟩
  obtain ⟨⟨aa, rfl, kaa⟩, ⟨ab, rfl, kab⟩, ⟨ac, rfl, kac⟩, ⟨ad, rfl, kad⟩, _⟩ := h
  exact ⟨aa, ab, ac, ad, rfl, kaa, kab, kac, kad⟩
theorem own : ownKnob Tryd.prog.godebug = none := by kernel_rfl
theorem et : Tryd.prog.globalNamed "errors.errorType" = some 0 := by kernel_rfl
theorem rt : (Tryd.prog.cutTypes.find? (·.1 == "internal/reflectlite.rtype")).map (·.2) = some 101 := by kernel_rfl
theorem oneRow : ((List.range 147).filter fun t => Tryd.prog.rowNamed t [101, 114, 114, 111, 114]) = [26] := by kernel_rfl
theorem size : Tryd.prog.types.size = 147 := by kernel_rfl
/-- what the condition gives: the variable's one cell -/
theorem known_of {W : World} (h : laidMetH Tryd.prog Rows.fixHalvesRow.laid W) : known W := by
  have h' : laidMet Tryd.prog [] W ∧ handlesMet Tryd.prog Rows.fixHalvesRow.laid W := h
  obtain ⟨name, u, ty, e1, e2, e3, e4, e5⟩ := h'.2 _ (List.mem_singleton.2 rfl)
  have en : name = [101, 114, 114, 111, 114] := (Option.some.inj e1).symm
  subst en
  obtain rfl := Option.some.inj (rt.symm.trans e2)
  have hm : ty ∈ (List.range 147).filter fun t => Tryd.prog.rowNamed t [101, 114, 114, 111, 114] := List.mem_filter.2 ⟨List.mem_range.2 (by rw [← size]; exact e3), e4⟩
  rw [oneRow] at hm
  obtain rfl := List.mem_singleton.1 hm
  have hh : typeHandle Tryd.prog 26 = .pointer (some ⟨3, 26, none⟩) := by kernel_rfl
  rw [hh] at e5
  unfold known errT
  simpa using World.var?_cell et e5 0
/-- a world with the variable's cell laid -/
def laidIn (w : World) : World := { w with heap := w.heap.modify 0 fun
  | .cells _ t frozen => .cells #[errT] t frozen
  | o => o }
theorem laidIn_met (os : Os) (args : Array Value) : laidMetH Tryd.prog Rows.fixHalvesRow.laid ((laidIn (World.holding Tryd.prog os ⟨#[], #[], []⟩)).forCall (fun _ _ => 0) ⟨#[], args, []⟩).memory :=
  laidMetH_of_parts (laidMet_nil _ _) (by kernel_rfl)
set_option maxRecDepth 100000 in
theorem lifted (os : Os) (started : os.Started) (H : Type) (enc : TypeId × Value → H) :
    ReturnsInHanded {} Tryd.checked os 5 .any (fun w args => (Rows.fixHalvesSpec.pre enc Tryd.prog Tryd.f5 [] false w args ∧ laidMetH Tryd.prog Rows.fixHalvesRow.laid w) ∧ sizedMet enc Tryd.prog Tryd.f5 (OpenSpec.ofChange Rows.fixHalvesSpec) false w args)
      (Rows.fixHalvesSpec.post enc Tryd.prog Tryd.f5 false true false false) := by
  refine returnsInHanded_of_change_and (C := Tryd.checked) (X := fun w _ => laidMetH Tryd.prog Rows.fixHalvesRow.laid w) (fun _ _ _ hh h => h.of_heap hh) own started (by kernel_rfl) Tryd.func5
    (ChangeSpec.witness_at (enc := enc) (C := Tryd.checked) (os := os) (X := fun w _ => laidMetH Tryd.prog Rows.fixHalvesRow.laid w) false (laidIn (World.holding Tryd.prog os ⟨#[], #[], []⟩)) #[.agg #[.int .u64 0, .int .u64 0, .int .u64 0, .int .u64 0], .int .u64 0] 8 rfl (by kernel_rfl) (by kernel_rfl) (by kernel_rfl) (by kernel_rfl) (by kernel_rfl) (laidIn_met os _)) ?_
  intro W base args ds gs before hval0 hW _ _ hL _
  have hval : ∀ (j : Nat) t v, Tryd.f5.params[j]? = some t → args[j]? = some v → Value.okWide Tryd.prog W .any base t v := hval0
  have hW' := hW
  obtain ⟨p, q, hA0, hV, rfl, hfz, hnd⟩ := hW
  have hA : DataW.TrodAll enc Tryd.prog W 0 (fun _ => true) true Tryd.f5.params.toList args.toList ds p := hA0
  rw [Tryd.params5] at hA hval
  obtain ⟨v0, v1, d0, d1, p0, p1, rfl, rfl, rfl, h0, h1⟩ := trodAll_two hA
  obtain ⟨rfl, rfl⟩ := trodVars_none hV
  obtain ⟨c0, rfl, r0⟩ := flat_open (L := [some .u64, some .u64, some .u64, some .u64]) (by kernel_rfl) h0
  obtain ⟨cs0, rfl⟩ := agg_array Tryd.underlying23 (hval 0 23 v0 rfl rfl)
  obtain ⟨aa, ab, ac, ad, hcs0, kaa, kab, kac, kad⟩ := cells0 c0
  have hcs0' : cs0 = #[.int .u64 aa, .int .u64 ab, .int .u64 ac, .int .u64 ad] := by
    have := congrArg List.toArray hcs0
    simpa [Value.cells] using this
  subst hcs0'
  obtain ⟨x1, rfl, rfl, rfl, w1⟩ := open_int Tryd.underlying22 (hval 1 22 v1 rfl rfl) h1
  clear hA0 hval0
  simp only [List.append_nil] at hW'
  refine (walk ⟨aa, ab, ac, ad⟩ x1 ⟨u64_bounds kaa, u64_bounds kab, u64_bounds kac, u64_bounds kad⟩ (u64_bounds w1) W (known_of hL)).mono fun e W' ⟨he, hg⟩ => ?_
  subst he
  exact ⟨_, rfl, post_of_same (pa := []) (pv := []) hW' (fun _ _ _ => trodAll_mk1 (shut_bool Tryd.underlying4 _))
    (fun sp _ => trodAll_mk2 (r0 _ _ _ _) (shut_int Tryd.underlying22 w1)) (fun _ _ => rfl) rfl
    (hg.1.frame _) (tidy_frozen hg) (ok_one (by kernel_rfl) rfl (okWide_bool_mk Tryd.underlying4 _))⟩
theorem row_holds : Rows.FixHalvesSaid :=
  OpenClaim.holds_of_wide 5 Tryd.f5 rfl rfl rfl rfl rfl rfl rfl ⟨rfl, rfl, rfl, rfl, rfl⟩ rfl rfl rfl rfl rfl (by kernel_rfl) Tryd.func5 (by kernel_rfl)
    (of_decide_eq_true (by kernel_rfl)) (by unfold Func.isWrapper; first | (rw [if_pos (by decide +kernel)]; kernel_rfl) | (rw [if_neg (by decide +kernel)]; exact ⟨rfl, rfl⟩))
    (fun os started H enc _ => lifted os started H enc)
theorem proved : Rows.FixHalvesCardSaid :=
  Claim7.holds_tied_plain_at .later [] [.handle] true (true, "9ed1360626a453007ad50c2fd01cb4d8cf3d1bbfb4d74e24a53151538a52c3f7") true
    row_holds (fun _ h => by cases h) (by kernel_rfl) (fun _ h => by cases h) fixHalves_row_tie rfl ⟨rfl, rfl⟩ (by kernel_rfl) rfl
    (fun f fn hf hfn => by
      obtain rfl : f = 5 := Option.some.inj ((show Tryd.prog.funcNamed "tiller/tillerlaw15.FixHalves" = some 5 by kernel_rfl).symm.trans hf) |>.symm
      obtain rfl : fn = Tryd.f5 := (Option.some.inj (Tryd.func5.symm.trans hfn)).symm
      exact ⟨by kernel_rfl, fun j t ht => by
        rw [Tryd.params5] at ht
        have hm : t ∈ [23, 22] := by simpa using Array.mem_of_getElem? ht
        have hall : ([23, 22].all fun u => !Tryd.prog.wantsStandIn u) = true := by kernel_rfl
        exact (show Tryd.prog.wantsStandIn t = false by simpa using List.all_eq_true.1 hall t hm)⟩)
    (by kernel_rfl)
end Go.Proofs.YtmgcnijpoklhkaaDoor.fixHalves
