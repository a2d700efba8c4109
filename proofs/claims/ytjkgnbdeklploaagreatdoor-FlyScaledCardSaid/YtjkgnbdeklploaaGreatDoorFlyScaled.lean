/-
  PROVED HERE: the tied card of tillerlaw18.FlyScaled: for every input the law returns true, and the argument reads afterwards as it read before: numbers of usual sizes, all times 2^300, have answers that are those of the numbers, times 2^300, and the same flags; of as many numbers as have no little transform both are the same error. Its condition: the variable errors.errorType holds the handle of its type.
-/
import Derived.Test.YtjkgnbdeklploaaGreatDoorG35
import Derived.Test.YtjkgnbdeklploaaGreatDoorRows
import Derived.Test.YtjkgnbdeklploaaGreatDoorCards
import Derived.Test.YtjkgnbdeklploaaGreatDoorTie
import Derived.ChangeSame
import Derived.ChangeVars
import Derived.JoinedOf
import Derived.RowKit
import Derived.LaidLaws
import Derived.LaidHandle
import Derived.Stop.Joined
import Derived.SevenTiedAt
namespace Go.Proofs.YtjkgnbdeklploaaGreatDoor.flyScaled
open Go.KRun Go.ChangeShapes Go.WideShapes Go.ChangeAt Go.RowKit Go.Wd Go.Pt Go.Rn
set_option linter.unusedVariables false
theorem own : ownKnob Tryz.prog.godebug = none := by kernel_rfl
theorem et : Tryz.prog.globalNamed "errors.errorType" = some 0 := by kernel_rfl
theorem rt : (Tryz.prog.cutTypes.find? (·.1 == "internal/reflectlite.rtype")).map (·.2) = some 93 := by kernel_rfl
theorem oneRow : ((List.range 258).filter fun t => Tryz.prog.rowNamed t [101, 114, 114, 111, 114]) = [26] := by kernel_rfl
theorem size : Tryz.prog.types.size = 258 := by kernel_rfl
/-- what the condition gives: the variable's one cell -/
theorem known_of {W : World} (h : laidMetH Tryz.prog Rows.flyScaledRow.laid W) : known W := by
  have h' : laidMet Tryz.prog [] W ∧ handlesMet Tryz.prog Rows.flyScaledRow.laid W := h
  obtain ⟨name, u, ty, e1, e2, e3, e4, e5⟩ := h'.2 _ (List.mem_singleton.2 rfl)
  have en : name = [101, 114, 114, 111, 114] := (Option.some.inj e1).symm
  subst en
  obtain rfl := Option.some.inj (rt.symm.trans e2)
  have hm : ty ∈ (List.range 258).filter fun t => Tryz.prog.rowNamed t [101, 114, 114, 111, 114] := List.mem_filter.2 ⟨List.mem_range.2 (by rw [← size]; exact e3), e4⟩
  rw [oneRow] at hm
  obtain rfl := List.mem_singleton.1 hm
  have hh : typeHandle Tryz.prog 26 = .pointer (some ⟨3, 26, none⟩) := by kernel_rfl
  rw [hh] at e5
  unfold known errT
  simpa using World.var?_cell et e5 0
/-- a world with the variable's cell laid -/
def laidIn (w : World) : World := { w with heap := w.heap.modify 0 fun
  | .cells _ t frozen => .cells #[errT] t frozen
  | o => o }
theorem laidIn_met (os : Os) (args : Array Value) : laidMetH Tryz.prog Rows.flyScaledRow.laid ((laidIn (World.holding Tryz.prog os ⟨#[], #[], []⟩)).forCall (fun _ _ => 0) ⟨#[], args, []⟩).memory :=
  laidMetH_of_parts (laidMet_nil _ _) (by kernel_rfl)
theorem us_no (o k c : Nat) (x : List Value × TypeId) (vs : List Value) (t : Bool) : Fits (reckonAt (tabH Tryz.prog extY conLn hcSn) (hXr x) 300 5 [.slice (some ⟨1, o, none⟩) (k + 1) c, .bool t] [val (.tuple ⟨vs⟩), cmp false]) (.bool true) [(giveB ts7 x o (k + 1) (k + 1) vs, true), (vs.all usV, false)] := ⟨by kernel_rfl, by kernel_rfl, by kernel_rfl, by kernel_rfl⟩
theorem sc_no (o k c : Nat) (x : List Value × TypeId) (vs : List Value) (t : Bool) : Fits (reckonAt (tabH Tryz.prog extY conLn hcSn) (hXr x) 300 5 [.slice (some ⟨1, o, none⟩) (k + 1) c, .bool t] [val (.tuple ⟨vs⟩), cmp true, val (.tuple ⟨vs⟩), val (.tuple ⟨vs⟩), val (.tuple ⟨vs⟩), cmp true]) (.bool true) [(true, true), (Nat.beq kT kT && kOk kV, true), (Nat.beq kT kT && kOk kV, true), (decide (canP ((k + 1 : Nat) : Int)), false), (giveB tp7 (vs, tp7) 0 (k + 1) (k + 1) vs, true), (decide (0 < k + 1), true), (giveB ts7 x o (k + 1) c vs, true), (decide (0 < k + 1), true), (decide (canP ((k + 1 : Nat) : Int)), false), (giveB ts7 x o (k + 1) c vs, true), (decide (0 < k + 1), true), (giveB ts7 x o (k + 1) (k + 1) vs, true), (vs.all usV, true)] := ⟨by kernel_rfl, by kernel_rfl, by kernel_rfl, by kernel_rfl⟩
theorem sc_e (o c : Nat) (x : List Value × TypeId) (t : Bool) : Fits (reckonAt (tabH Tryz.prog extY conLn hcSn) (hXr x) 300 5 [.slice (some ⟨1, o, none⟩) 0 c, .bool t] [cmp true]) (.bool true) [(true, true), (Nat.beq kT kT && kOk kV, true), (Nat.beq kT kT && kOk kV, true), (false, false), (false, false)] := ⟨by kernel_rfl, by kernel_rfl, by kernel_rfl, by kernel_rfl⟩
theorem sc_z (x : List Value × TypeId) (t : Bool) : Fits (reckonAt (tabH Tryz.prog extY conLn hcSn) (hXr x) 300 5 [nilS, .bool t] [cmp true]) (.bool true) [(true, true), (Nat.beq kT kT && kOk kV, true), (Nat.beq kT kT && kOk kV, true), (false, false), (false, false)] := ⟨by kernel_rfl, by kernel_rfl, by kernel_rfl, by kernel_rfl⟩
theorem walk {w : World} (hk : known w) {v : Value} {x : List Value × TypeId} {k : Nat × Nat} {p : Option Addr} {n c o : Nat} {L : List Int} (Ha : ArgX w 1 v x k p n c o L) (t : Bool) : Calls Tryz.prog 5 #[v, .bool t] w fun e w' => e = .returned (.bool true) ∧ Tidy w w' := by
  have kk : (Nat.beq kT kT && kOk kV) = true := by kernel_rfl
  rcases Nat.eq_zero_or_pos n with rfl | hp
  · rcases arg_zero Ha with ⟨rfl, rfl⟩ | rfl
    · exact law_fin conLn_ok hcSn_ok hk Ha (extra := [.bool t]) (by rfl) (sc_z x t) (okPC rfl (okCT2 kk (okCT2 kk (okPC rfl (okP1 rfl)))))
    · exact law_fin conLn_ok hcSn_ok hk Ha (extra := [.bool t]) (by rfl) (sc_e o c x t) (okPC rfl (okCT2 kk (okCT2 kk (okPC rfl (okP1 rfl)))))
  obtain ⟨rfl, hg, hu⟩ := arg_give Ha hp
  have hg2 := give_nn hg
  have hg3 := give_vs hg
  cases hus : (prC (prL n L)).all usV with
  | false =>
    obtain ⟨j, rfl⟩ : ∃ j, n = j + 1 := ⟨n - 1, by omega⟩
    exact law_fin conLn_ok hcSn_ok hk Ha (extra := [.bool t]) (by rfl) (us_no o j c x _ t) (okCT2 hg2 (okP1 hus))
  | true =>
    by_cases hc : canP (n : Int)
    · have hn : n = 2 ∨ n = 3 ∨ n = 4 ∨ n = 5 ∨ n = 7 ∨ n = 11 ∨ n = 13 := by unfold canP at hc; omega
      obtain ⟨l, rfl, hq⟩ := arg_row Ha
      have hX := prL_len n L
      obtain ⟨a1, a2, a3⟩ := fl_us hu hus (by omega) t
      have hl : litB (prC (prL n L), tp7) n = true := litB_pr hu hX
      have hl2 : litB (prC ((prL n L).map scp), tp7) n = true := litB_pr a1 (by rw [List.length_map, hX])
      have hV := fl_len2 hX hn t
      have hw : giveB tp7 (prC (flV (prL n L) t), tp7) 0 n n (prC (flV (prL n L) t)) = true := give_pr (flV_u hu t) hV (by omega)
      have hf : (orL (flags (flO (prL n L) t)) == orL (flags (flO ((prL n L).map scp) t))) = true := beq_T (by rw [a3])
      have hm : ∀ i, i < n → (!(scI (geP (flV (prL n L) t) i).1 == (geP (flV ((prL n L).map scp) t) i).1 && (scI (geP (flV (prL n L) t) i).2 == (geP (flV ((prL n L).map scp) t) i).2 && true))) = false := fun i hi => ge_us a2 (by rw [hV]; exact hi)
      rcases hn with rfl | rfl | rfl | rfl | rfl | rfl | rfl
      · exact law_finA conLs_ok hcSc_ok hk Ha (extra := [.bool t]) (by rfl) (sl2 o c L l t) (okCF2 (hm 1 (by omega)) (okCF2 (hm 0 (by omega)) (okCT2 hw (okPC rfl (okCT2 hf (okCT2 hl2 (okCT2 hg3 (okPC rfl (okCT2 hg (okPC rfl (okCT2 hl (okCT2 hg (okPC rfl (okCT2 hg2 (okP1 hus)))))))))))))))
      · exact law_finA conLs_ok hcSc_ok hk Ha (extra := [.bool t]) (by rfl) (sl3 o c L l t) (okCF2 (hm 2 (by omega)) (okCF2 (hm 1 (by omega)) (okCF2 (hm 0 (by omega)) (okCT2 hw (okPC rfl (okCT2 hf (okCT2 hl2 (okCT2 hg3 (okPC rfl (okCT2 hg (okPC rfl (okCT2 hl (okCT2 hg (okPC rfl (okCT2 hg2 (okP1 hus))))))))))))))))
      · exact law_finA conLs_ok hcSc_ok hk Ha (extra := [.bool t]) (by rfl) (sl4 o c L l t) (okCF2 (hm 3 (by omega)) (okCF2 (hm 2 (by omega)) (okCF2 (hm 1 (by omega)) (okCF2 (hm 0 (by omega)) (okCT2 hw (okPC rfl (okCT2 hf (okCT2 hl2 (okCT2 hg3 (okPC rfl (okCT2 hg (okPC rfl (okCT2 hl (okCT2 hg (okPC rfl (okCT2 hg2 (okP1 hus)))))))))))))))))
      · exact law_finA conLs_ok hcSc_ok hk Ha (extra := [.bool t]) (by rfl) (sl5 o c L l t) (okCF2 (hm 4 (by omega)) (okCF2 (hm 3 (by omega)) (okCF2 (hm 2 (by omega)) (okCF2 (hm 1 (by omega)) (okCF2 (hm 0 (by omega)) (okCT2 hw (okPC rfl (okCT2 hf (okCT2 hl2 (okCT2 hg3 (okPC rfl (okCT2 hg (okPC rfl (okCT2 hl (okCT2 hg (okPC rfl (okCT2 hg2 (okP1 hus))))))))))))))))))
      · exact law_finA conLs_ok hcSc_ok hk Ha (extra := [.bool t]) (by rfl) (sl7 o c L l t) (okCF2 (hm 6 (by omega)) (okCF2 (hm 5 (by omega)) (okCF2 (hm 4 (by omega)) (okCF2 (hm 3 (by omega)) (okCF2 (hm 2 (by omega)) (okCF2 (hm 1 (by omega)) (okCF2 (hm 0 (by omega)) (okCT2 hw (okPC rfl (okCT2 hf (okCT2 hl2 (okCT2 hg3 (okPC rfl (okCT2 hg (okPC rfl (okCT2 hl (okCT2 hg (okPC rfl (okCT2 hg2 (okP1 hus))))))))))))))))))))
      · exact law_finA conLs_ok hcSc_ok hk Ha (extra := [.bool t]) (by rfl) (sl11 o c L l t) (okCF2 (hm 10 (by omega)) (okCF2 (hm 9 (by omega)) (okCF2 (hm 8 (by omega)) (okCF2 (hm 7 (by omega)) (okCF2 (hm 6 (by omega)) (okCF2 (hm 5 (by omega)) (okCF2 (hm 4 (by omega)) (okCF2 (hm 3 (by omega)) (okCF2 (hm 2 (by omega)) (okCF2 (hm 1 (by omega)) (okCF2 (hm 0 (by omega)) (okCT2 hw (okPC rfl (okCT2 hf (okCT2 hl2 (okCT2 hg3 (okPC rfl (okCT2 hg (okPC rfl (okCT2 hl (okCT2 hg (okPC rfl (okCT2 hg2 (okP1 hus))))))))))))))))))))))))
      · exact law_finA conLs_ok hcSc_ok hk Ha (extra := [.bool t]) (by rfl) (sl13 o c L l t) (okCF2 (hm 12 (by omega)) (okCF2 (hm 11 (by omega)) (okCF2 (hm 10 (by omega)) (okCF2 (hm 9 (by omega)) (okCF2 (hm 8 (by omega)) (okCF2 (hm 7 (by omega)) (okCF2 (hm 6 (by omega)) (okCF2 (hm 5 (by omega)) (okCF2 (hm 4 (by omega)) (okCF2 (hm 3 (by omega)) (okCF2 (hm 2 (by omega)) (okCF2 (hm 1 (by omega)) (okCF2 (hm 0 (by omega)) (okCT2 hw (okPC rfl (okCT2 hf (okCT2 hl2 (okCT2 hg3 (okPC rfl (okCT2 hg (okPC rfl (okCT2 hl (okCT2 hg (okPC rfl (okCT2 hg2 (okP1 hus))))))))))))))))))))))))))
    · have hc' : decide (canP (n : Int)) = false := decide_eq_false hc
      obtain ⟨j, rfl⟩ : ∃ j, n = j + 1 := ⟨n - 1, by omega⟩
      exact law_fin conLn_ok hcSn_ok hk Ha (extra := [.bool t]) (by rfl) (sc_no o j c x _ t) (okPC rfl (okCT2 kk (okCT2 kk (okCF2 hc' (okCT2 hg3 (okCT2 (decide_eq_true hp) (okCT2 hg (okCT2 (decide_eq_true hp) (okCF2 hc' (okCT2 hg (okCT2 (decide_eq_true hp) (okCT2 hg2 (okP1 hus)))))))))))))
set_option maxRecDepth 100000 in
theorem lifted (os : Os) (started : os.Started) (H : Type) (enc : TypeId × Value → H) :
    ReturnsInHanded {} Tryz.checked os 5 .any (fun w args => (Rows.flyScaledSpec.pre enc Tryz.prog Tryz.f5 [] false w args ∧ laidMetH Tryz.prog Rows.flyScaledRow.laid w) ∧ sizedMet enc Tryz.prog Tryz.f5 (OpenSpec.ofChange Rows.flyScaledSpec) false w args)
      (Rows.flyScaledSpec.post enc Tryz.prog Tryz.f5 false true false false) := by
  refine returnsInHanded_of_change_and (C := Tryz.checked) (X := fun w _ => laidMetH Tryz.prog Rows.flyScaledRow.laid w) (fun _ _ _ hh h => h.of_heap hh) own started (by kernel_rfl) Tryz.func5
    (ChangeSpec.witness_at (enc := enc) (C := Tryz.checked) (os := os) (X := fun w _ => laidMetH Tryz.prog Rows.flyScaledRow.laid w) false (laidIn (World.holding Tryz.prog os ⟨#[], #[], []⟩)) #[.slice none 0 0, .bool false] 8 rfl (by kernel_rfl) (by kernel_rfl) (by kernel_rfl) (by kernel_rfl) (by kernel_rfl) (laidIn_met os _)) ?_
  intro W base args ds gs before hval0 hW _ hsz0 hL _
  have hsz : (DataW.weightsEach Tryz.prog (Tryz.f5.params.toList ++ Rows.flyScaledSpec.plain.varTypes Tryz.prog) (ds ++ gs)).all (· ≤ reachBytes) = true := hsz0
  have hval : ∀ (j : Nat) t v, Tryz.f5.params[j]? = some t → args[j]? = some v → Value.okWide Tryz.prog W .any base t v := hval0
  have hW' := hW
  obtain ⟨p, q, hA0, hV, rfl, hfz, hnd⟩ := hW
  have hA : DataW.TrodAll enc Tryz.prog W 0 (fun _ => true) true Tryz.f5.params.toList args.toList ds p := hA0
  rw [Tryz.params5] at hA hval hsz
  obtain ⟨v0, v1, d0, d1, p0, p1, rfl, rfl, rfl, h0, h1⟩ := trodAll_two hA
  obtain ⟨rfl, rfl⟩ := trodVars_none hV
  obtain ⟨⟨xa, ka, qa, na, ca, oa, LA, Ha⟩, s0⟩ := argX_of 1 (hval 0 22 v0 rfl rfl) h0 (fun x y e => sized_slice hsz (j := 0) (t := 22) (e := 47) rfl (by rw [e]; rfl) par_ty)
  obtain ⟨x1, rfl, rfl, rfl⟩ := open_bool Tryz.underlying4 (hval 1 4 v1 rfl rfl) h1
  refine (walk (known_of hL) Ha x1).mono fun e W' ⟨he, hg⟩ => ?_
  subst he
  exact ⟨_, rfl, post_of_same (pa := p0 ++ []) (pv := []) hW' (fun _ _ _ => trodAll_mk1 (shut_bool Tryz.underlying4 _)) (fun sp hsp => trodAll_mk2 (s0 W' sp hg fun y hy => hsp y (by simp [hy])) (shut_bool Tryz.underlying4 _)) (fun _ _ => rfl) rfl
    (hg.1.frame _) (tidy_frozen hg) (ok_one (by kernel_rfl) rfl (okWide_bool_mk Tryz.underlying4 _))⟩
theorem row_holds : Rows.FlyScaledSaid :=
  OpenClaim.holds_of_wide 5 Tryz.f5 rfl rfl rfl rfl rfl rfl rfl ⟨rfl, rfl, rfl, rfl, rfl⟩ rfl rfl rfl rfl rfl (by kernel_rfl) Tryz.func5 (by kernel_rfl)
    (of_decide_eq_true (by kernel_rfl)) (by unfold Func.isWrapper; first | (rw [if_pos (by decide +kernel)]; kernel_rfl) | (rw [if_neg (by decide +kernel)]; exact ⟨rfl, rfl⟩))
    (fun os started H enc _ => lifted os started H enc)
theorem proved : Rows.FlyScaledCardSaid :=
  Claim7.holds_tied_plain_at .later [] [.handle] true (true, "fa2d0004d57bf76555a5e7a3c3c360e4751bed62b92098bc3c14d1f1abbca985") true
    row_holds (fun _ h => by cases h) (by kernel_rfl) (fun _ h => by cases h) flyScaled_row_tie rfl ⟨rfl, rfl⟩ (by kernel_rfl) rfl
    (fun f fn hf hfn => by
      obtain rfl : f = 5 := Option.some.inj ((show Tryz.prog.funcNamed "tiller/tillerlaw18.FlyScaled" = some 5 by kernel_rfl).symm.trans hf) |>.symm
      obtain rfl : fn = Tryz.f5 := (Option.some.inj (Tryz.func5.symm.trans hfn)).symm
      exact ⟨by kernel_rfl, fun j t ht => by
        rw [Tryz.params5] at ht
        have hm : t ∈ [22, 4] := by simpa using Array.mem_of_getElem? ht
        have hall : ([22, 4].all fun u => !Tryz.prog.wantsStandIn u) = true := by kernel_rfl
        exact (show Tryz.prog.wantsStandIn t = false by simpa using List.all_eq_true.1 hall t hm)⟩)
    (by kernel_rfl)
end Go.Proofs.YtjkgnbdeklploaaGreatDoor.flyScaled
