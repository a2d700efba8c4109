/-
  PROVED HERE: the tied card of tillerlaw18.FlyMirror: for every input the law returns true, and the argument reads afterwards as it read before: back is forth with the answers but the first one in the other order; of as many numbers as have no little transform both are the same error. Its condition: the variable errors.errorType holds the handle of its type.
-/
import Derived.Test.YtjkgnbdeklploaaGreatDoorG33
import Derived.Test.YtjkgnbdeklploaaGreatDoorRows
import Derived.Test.YtjkgnbdeklploaaGreatDoorCards
import Derived.Test.YtjkgnbdeklploaaGreatDoorTie
import Derived.ChangeSame
import Derived.ChangeVars
import Derived.JoinedOf
import Derived.RowKit
import Derived.LaidLaws
import Derived.LaidHandle
import Derived.Stop.Joined
import Derived.SevenTiedAt
namespace Go.Proofs.YtjkgnbdeklploaaGreatDoor.flyMirror
open Go.KRun Go.ChangeShapes Go.WideShapes Go.ChangeAt Go.RowKit Go.Wd Go.Pt Go.Rn
set_option linter.unusedVariables false
theorem own : ownKnob Tryz.prog.godebug = none := by kernel_rfl
theorem et : Tryz.prog.globalNamed "errors.errorType" = some 0 := by kernel_rfl
theorem rt : (Tryz.prog.cutTypes.find? (·.1 == "internal/reflectlite.rtype")).map (·.2) = some 93 := by kernel_rfl
theorem oneRow : ((List.range 258).filter fun t => Tryz.prog.rowNamed t [101, 114, 114, 111, 114]) = [26] := by kernel_rfl
theorem size : Tryz.prog.types.size = 258 := by kernel_rfl
/-- what the condition gives: the variable's one cell -/
theorem known_of {W : World} (h : laidMetH Tryz.prog Rows.flyMirrorRow.laid W) : known W := by
  have h' : laidMet Tryz.prog [] W ∧ handlesMet Tryz.prog Rows.flyMirrorRow.laid W := h
  obtain ⟨name, u, ty, e1, e2, e3, e4, e5⟩ := h'.2 _ (List.mem_singleton.2 rfl)
  have en : name = [101, 114, 114, 111, 114] := (Option.some.inj e1).symm
  subst en
  obtain rfl := Option.some.inj (rt.symm.trans e2)
  have hm : ty ∈ (List.range 258).filter fun t => Tryz.prog.rowNamed t [101, 114, 114, 111, 114] := List.mem_filter.2 ⟨List.mem_range.2 (by rw [← size]; exact e3), e4⟩
  rw [oneRow] at hm
  obtain rfl := List.mem_singleton.1 hm
  have hh : typeHandle Tryz.prog 26 = .pointer (some ⟨3, 26, none⟩) := by kernel_rfl
  rw [hh] at e5
  unfold known errT
  simpa using World.var?_cell et e5 0
/-- a world with the variable's cell laid -/
def laidIn (w : World) : World := { w with heap := w.heap.modify 0 fun
  | .cells _ t frozen => .cells #[errT] t frozen
  | o => o }
theorem laidIn_met (os : Os) (args : Array Value) : laidMetH Tryz.prog Rows.flyMirrorRow.laid ((laidIn (World.holding Tryz.prog os ⟨#[], #[], []⟩)).forCall (fun _ _ => 0) ⟨#[], args, []⟩).memory :=
  laidMetH_of_parts (laidMet_nil _ _) (by kernel_rfl)
theorem mi_no (o k c : Nat) (x : List Value × TypeId) (vs : List Value) : Fits (reckonAt (tabH Tryz.prog extY conLn hcLn) (hXr x) 300 4 [.slice (some ⟨1, o, none⟩) (k + 1) c] [val (.tuple ⟨vs⟩), val (.tuple ⟨vs⟩), cmp true]) (.bool true) [(decide (canP ((k + 1 : Nat) : Int)), false), (true, true), (Nat.beq kT kT && kOk kV, true), (Nat.beq kT kT && kOk kV, true), (decide (canP ((k + 1 : Nat) : Int)), false), (giveB ts7 x o (k + 1) c vs, true), (decide (0 < k + 1), true), (decide (canP ((k + 1 : Nat) : Int)), false), (giveB ts7 x o (k + 1) c vs, true), (decide (0 < k + 1), true)] := ⟨by kernel_rfl, by kernel_rfl, by kernel_rfl, by kernel_rfl⟩
theorem mi_e (o c : Nat) (x : List Value × TypeId) : Fits (reckonAt (tabH Tryz.prog extY conLn hcLn) (hXr x) 300 4 [.slice (some ⟨1, o, none⟩) 0 c] [cmp true]) (.bool true) [(false, false), (true, true), (Nat.beq kT kT && kOk kV, true), (Nat.beq kT kT && kOk kV, true), (false, false), (false, false)] := ⟨by kernel_rfl, by kernel_rfl, by kernel_rfl, by kernel_rfl⟩
theorem mi_z (x : List Value × TypeId) : Fits (reckonAt (tabH Tryz.prog extY conLn hcLn) (hXr x) 300 4 [nilS] [cmp true]) (.bool true) [(false, false), (true, true), (Nat.beq kT kT && kOk kV, true), (Nat.beq kT kT && kOk kV, true), (false, false), (false, false)] := ⟨by kernel_rfl, by kernel_rfl, by kernel_rfl, by kernel_rfl⟩
theorem okCT {a : Bool} {l : Log} (h : a = true) (hl : okLog l) : okLog ((a, true) :: l) := okPC h hl
theorem okCF {a : Bool} {l : Log} (h : a = false) (hl : okLog l) : okLog ((a, false) :: l) := okPC h hl
theorem fl_len {xs : List PR} {n : Nat} (hn : xs.length = n) (hc : n = 2 ∨ n = 3 ∨ n = 4 ∨ n = 5 ∨ n = 7 ∨ n = 11 ∨ n = 13) (t : Bool) : (flV xs t).length = n := by
  by_cases h2 : n = 2
  · subst h2
    match xs, hn with
    | [a, b], _ => rfl
  · by_cases h4 : n = 4
    · subst h4
      match xs, hn with
      | [a, b, c, d], _ => rfl
    · have e : flV xs t = fyV xs.length (xs.length / 2) (x0Of xs) (uOf xs) (vOf xs) t := by
        match xs, hn with
        | [], _ => rfl
        | [a], _ => rfl
        | [a, b], h => exact absurd h.symm h2
        | [a, b, c], _ => rfl
        | [a, b, c, d], h => exact absurd h.symm h4
        | a :: b :: c :: d :: e :: r, _ => rfl
      rw [e]
      unfold fyV fyAs fyEs
      simp only [List.length_cons, List.length_append, List.length_reverse, List.length_zipWith, List.length_map, List.length_range, hn]
      omega
theorem walk {w : World} (hk : known w) {v : Value} {x : List Value × TypeId} {k : Nat × Nat} {p : Option Addr} {n c o : Nat} {L : List Int} (Ha : ArgX w 1 v x k p n c o L) : Calls Tryz.prog 4 #[v] w fun e w' => e = .returned (.bool true) ∧ Tidy w w' := by
  have kk : (Nat.beq kT kT && kOk kV) = true := by kernel_rfl
  by_cases hc : canP (n : Int)
  · have hn : n = 2 ∨ n = 3 ∨ n = 4 ∨ n = 5 ∨ n = 7 ∨ n = 11 ∨ n = 13 := by unfold canP at hc; omega
    obtain ⟨rfl, hg, hu⟩ := arg_give Ha (by omega)
    obtain ⟨l, rfl, hq⟩ := arg_row Ha
    have hl : litB (prC (prL n L), tp7) n = true := litB_pr hu (prL_len n L)
    have hf : (orL (flags (flO (prL n L) false)) != orL (flags (flO (prL n L) true))) = false := bne_F (fl_backF hu)
    have hlen := fl_len (prL_len n L) hn false
    have hm : ∀ i, i < n → geP (flV (prL n L) false) i = geP (flV (prL n L) true) ((n - i) % n) := fun i hi => mirror hu (fun h => by have := prL_len n L; rw [h] at this; simp at this; omega) hlen hi
    rcases hn with rfl | rfl | rfl | rfl | rfl | rfl | rfl
    · exact law_finA conLs_ok hcLs_ok hk Ha (extra := []) (by rfl) (mi2 o c L l) (okPC rfl (okCF (bne_F (congrArg Prod.snd (hm 1 (by omega)))) (okCF (bne_F (congrArg Prod.fst (hm 1 (by omega)))) (okCT hq (okPC rfl (okPC rfl (okCF (bne_F (congrArg Prod.snd (hm 0 (by omega)))) (okCF (bne_F (congrArg Prod.fst (hm 0 (by omega)))) (okCT hq (okPC rfl (okPC rfl (okPC rfl (okPC rfl (okCF hf (okCT hl (okCT hg (okPC rfl (okCT hl (okCT hg (okP1 rfl))))))))))))))))))))
    · exact law_finA conLs_ok hcLs_ok hk Ha (extra := []) (by rfl) (mi3 o c L l) (okPC rfl (okCF (bne_F (congrArg Prod.snd (hm 2 (by omega)))) (okCF (bne_F (congrArg Prod.fst (hm 2 (by omega)))) (okCT hq (okPC rfl (okPC rfl (okCF (bne_F (congrArg Prod.snd (hm 1 (by omega)))) (okCF (bne_F (congrArg Prod.fst (hm 1 (by omega)))) (okCT hq (okPC rfl (okPC rfl (okCF (bne_F (congrArg Prod.snd (hm 0 (by omega)))) (okCF (bne_F (congrArg Prod.fst (hm 0 (by omega)))) (okCT hq (okPC rfl (okPC rfl (okPC rfl (okPC rfl (okCF hf (okCT hl (okCT hg (okPC rfl (okCT hl (okCT hg (okP1 rfl)))))))))))))))))))))))))
    · exact law_finA conLs_ok hcLs_ok hk Ha (extra := []) (by rfl) (mi4 o c L l) (okPC rfl (okCF (bne_F (congrArg Prod.snd (hm 3 (by omega)))) (okCF (bne_F (congrArg Prod.fst (hm 3 (by omega)))) (okCT hq (okPC rfl (okPC rfl (okCF (bne_F (congrArg Prod.snd (hm 2 (by omega)))) (okCF (bne_F (congrArg Prod.fst (hm 2 (by omega)))) (okCT hq (okPC rfl (okPC rfl (okCF (bne_F (congrArg Prod.snd (hm 1 (by omega)))) (okCF (bne_F (congrArg Prod.fst (hm 1 (by omega)))) (okCT hq (okPC rfl (okPC rfl (okCF (bne_F (congrArg Prod.snd (hm 0 (by omega)))) (okCF (bne_F (congrArg Prod.fst (hm 0 (by omega)))) (okCT hq (okPC rfl (okPC rfl (okPC rfl (okPC rfl (okCF hf (okCT hl (okCT hg (okPC rfl (okCT hl (okCT hg (okP1 rfl))))))))))))))))))))))))))))))
    · exact law_finA conLs_ok hcLs_ok hk Ha (extra := []) (by rfl) (mi5 o c L l) (okPC rfl (okCF (bne_F (congrArg Prod.snd (hm 4 (by omega)))) (okCF (bne_F (congrArg Prod.fst (hm 4 (by omega)))) (okCT hq (okPC rfl (okPC rfl (okCF (bne_F (congrArg Prod.snd (hm 3 (by omega)))) (okCF (bne_F (congrArg Prod.fst (hm 3 (by omega)))) (okCT hq (okPC rfl (okPC rfl (okCF (bne_F (congrArg Prod.snd (hm 2 (by omega)))) (okCF (bne_F (congrArg Prod.fst (hm 2 (by omega)))) (okCT hq (okPC rfl (okPC rfl (okCF (bne_F (congrArg Prod.snd (hm 1 (by omega)))) (okCF (bne_F (congrArg Prod.fst (hm 1 (by omega)))) (okCT hq (okPC rfl (okPC rfl (okCF (bne_F (congrArg Prod.snd (hm 0 (by omega)))) (okCF (bne_F (congrArg Prod.fst (hm 0 (by omega)))) (okCT hq (okPC rfl (okPC rfl (okPC rfl (okPC rfl (okCF hf (okCT hl (okCT hg (okPC rfl (okCT hl (okCT hg (okP1 rfl)))))))))))))))))))))))))))))))))))
    · exact law_finA conLs_ok hcLs_ok hk Ha (extra := []) (by rfl) (mi7 o c L l) (okPC rfl (okCF (bne_F (congrArg Prod.snd (hm 6 (by omega)))) (okCF (bne_F (congrArg Prod.fst (hm 6 (by omega)))) (okCT hq (okPC rfl (okPC rfl (okCF (bne_F (congrArg Prod.snd (hm 5 (by omega)))) (okCF (bne_F (congrArg Prod.fst (hm 5 (by omega)))) (okCT hq (okPC rfl (okPC rfl (okCF (bne_F (congrArg Prod.snd (hm 4 (by omega)))) (okCF (bne_F (congrArg Prod.fst (hm 4 (by omega)))) (okCT hq (okPC rfl (okPC rfl (okCF (bne_F (congrArg Prod.snd (hm 3 (by omega)))) (okCF (bne_F (congrArg Prod.fst (hm 3 (by omega)))) (okCT hq (okPC rfl (okPC rfl (okCF (bne_F (congrArg Prod.snd (hm 2 (by omega)))) (okCF (bne_F (congrArg Prod.fst (hm 2 (by omega)))) (okCT hq (okPC rfl (okPC rfl (okCF (bne_F (congrArg Prod.snd (hm 1 (by omega)))) (okCF (bne_F (congrArg Prod.fst (hm 1 (by omega)))) (okCT hq (okPC rfl (okPC rfl (okCF (bne_F (congrArg Prod.snd (hm 0 (by omega)))) (okCF (bne_F (congrArg Prod.fst (hm 0 (by omega)))) (okCT hq (okPC rfl (okPC rfl (okPC rfl (okPC rfl (okCF hf (okCT hl (okCT hg (okPC rfl (okCT hl (okCT hg (okP1 rfl)))))))))))))))))))))))))))))))))))))))))))))
    · exact law_finA conLs_ok hcLs_ok hk Ha (extra := []) (by rfl) (mi11 o c L l) (okPC rfl (okCF (bne_F (congrArg Prod.snd (hm 10 (by omega)))) (okCF (bne_F (congrArg Prod.fst (hm 10 (by omega)))) (okCT hq (okPC rfl (okPC rfl (okCF (bne_F (congrArg Prod.snd (hm 9 (by omega)))) (okCF (bne_F (congrArg Prod.fst (hm 9 (by omega)))) (okCT hq (okPC rfl (okPC rfl (okCF (bne_F (congrArg Prod.snd (hm 8 (by omega)))) (okCF (bne_F (congrArg Prod.fst (hm 8 (by omega)))) (okCT hq (okPC rfl (okPC rfl (okCF (bne_F (congrArg Prod.snd (hm 7 (by omega)))) (okCF (bne_F (congrArg Prod.fst (hm 7 (by omega)))) (okCT hq (okPC rfl (okPC rfl (okCF (bne_F (congrArg Prod.snd (hm 6 (by omega)))) (okCF (bne_F (congrArg Prod.fst (hm 6 (by omega)))) (okCT hq (okPC rfl (okPC rfl (okCF (bne_F (congrArg Prod.snd (hm 5 (by omega)))) (okCF (bne_F (congrArg Prod.fst (hm 5 (by omega)))) (okCT hq (okPC rfl (okPC rfl (okCF (bne_F (congrArg Prod.snd (hm 4 (by omega)))) (okCF (bne_F (congrArg Prod.fst (hm 4 (by omega)))) (okCT hq (okPC rfl (okPC rfl (okCF (bne_F (congrArg Prod.snd (hm 3 (by omega)))) (okCF (bne_F (congrArg Prod.fst (hm 3 (by omega)))) (okCT hq (okPC rfl (okPC rfl (okCF (bne_F (congrArg Prod.snd (hm 2 (by omega)))) (okCF (bne_F (congrArg Prod.fst (hm 2 (by omega)))) (okCT hq (okPC rfl (okPC rfl (okCF (bne_F (congrArg Prod.snd (hm 1 (by omega)))) (okCF (bne_F (congrArg Prod.fst (hm 1 (by omega)))) (okCT hq (okPC rfl (okPC rfl (okCF (bne_F (congrArg Prod.snd (hm 0 (by omega)))) (okCF (bne_F (congrArg Prod.fst (hm 0 (by omega)))) (okCT hq (okPC rfl (okPC rfl (okPC rfl (okPC rfl (okCF hf (okCT hl (okCT hg (okPC rfl (okCT hl (okCT hg (okP1 rfl)))))))))))))))))))))))))))))))))))))))))))))))))))))))))))))))))
    · exact law_finA conLs_ok hcLs_ok hk Ha (extra := []) (by rfl) (mi13 o c L l) (okPC rfl (okCF (bne_F (congrArg Prod.snd (hm 12 (by omega)))) (okCF (bne_F (congrArg Prod.fst (hm 12 (by omega)))) (okCT hq (okPC rfl (okPC rfl (okCF (bne_F (congrArg Prod.snd (hm 11 (by omega)))) (okCF (bne_F (congrArg Prod.fst (hm 11 (by omega)))) (okCT hq (okPC rfl (okPC rfl (okCF (bne_F (congrArg Prod.snd (hm 10 (by omega)))) (okCF (bne_F (congrArg Prod.fst (hm 10 (by omega)))) (okCT hq (okPC rfl (okPC rfl (okCF (bne_F (congrArg Prod.snd (hm 9 (by omega)))) (okCF (bne_F (congrArg Prod.fst (hm 9 (by omega)))) (okCT hq (okPC rfl (okPC rfl (okCF (bne_F (congrArg Prod.snd (hm 8 (by omega)))) (okCF (bne_F (congrArg Prod.fst (hm 8 (by omega)))) (okCT hq (okPC rfl (okPC rfl (okCF (bne_F (congrArg Prod.snd (hm 7 (by omega)))) (okCF (bne_F (congrArg Prod.fst (hm 7 (by omega)))) (okCT hq (okPC rfl (okPC rfl (okCF (bne_F (congrArg Prod.snd (hm 6 (by omega)))) (okCF (bne_F (congrArg Prod.fst (hm 6 (by omega)))) (okCT hq (okPC rfl (okPC rfl (okCF (bne_F (congrArg Prod.snd (hm 5 (by omega)))) (okCF (bne_F (congrArg Prod.fst (hm 5 (by omega)))) (okCT hq (okPC rfl (okPC rfl (okCF (bne_F (congrArg Prod.snd (hm 4 (by omega)))) (okCF (bne_F (congrArg Prod.fst (hm 4 (by omega)))) (okCT hq (okPC rfl (okPC rfl (okCF (bne_F (congrArg Prod.snd (hm 3 (by omega)))) (okCF (bne_F (congrArg Prod.fst (hm 3 (by omega)))) (okCT hq (okPC rfl (okPC rfl (okCF (bne_F (congrArg Prod.snd (hm 2 (by omega)))) (okCF (bne_F (congrArg Prod.fst (hm 2 (by omega)))) (okCT hq (okPC rfl (okPC rfl (okCF (bne_F (congrArg Prod.snd (hm 1 (by omega)))) (okCF (bne_F (congrArg Prod.fst (hm 1 (by omega)))) (okCT hq (okPC rfl (okPC rfl (okCF (bne_F (congrArg Prod.snd (hm 0 (by omega)))) (okCF (bne_F (congrArg Prod.fst (hm 0 (by omega)))) (okCT hq (okPC rfl (okPC rfl (okPC rfl (okPC rfl (okCF hf (okCT hl (okCT hg (okPC rfl (okCT hl (okCT hg (okP1 rfl)))))))))))))))))))))))))))))))))))))))))))))))))))))))))))))))))))))))))))
  · have hc' : decide (canP (n : Int)) = false := decide_eq_false hc
    rcases Nat.eq_zero_or_pos n with rfl | hp
    · rcases arg_zero Ha with ⟨rfl, rfl⟩ | rfl
      · exact law_fin conLn_ok hcLn_ok hk Ha (extra := []) (by rfl) (mi_z x) (okPC rfl (okPC rfl (okCT kk (okCT kk (okPC rfl (okP1 rfl))))))
      · exact law_fin conLn_ok hcLn_ok hk Ha (extra := []) (by rfl) (mi_e o c x) (okPC rfl (okPC rfl (okCT kk (okCT kk (okPC rfl (okP1 rfl))))))
    · obtain ⟨rfl, hg, hu⟩ := arg_give Ha hp
      obtain ⟨j, rfl⟩ : ∃ j, n = j + 1 := ⟨n - 1, by omega⟩
      exact law_fin conLn_ok hcLn_ok hk Ha (extra := []) (by rfl) (mi_no o j c x _) (okCF hc' (okPC rfl (okCT kk (okCT kk (okCF hc' (okCT hg (okCT (decide_eq_true hp) (okCF hc' (okCT hg (okP1 (decide_eq_true hp)))))))))))
set_option maxRecDepth 100000 in
theorem lifted (os : Os) (started : os.Started) (H : Type) (enc : TypeId × Value → H) :
    ReturnsInHanded {} Tryz.checked os 4 .any (fun w args => (Rows.flyMirrorSpec.pre enc Tryz.prog Tryz.f4 [] false w args ∧ laidMetH Tryz.prog Rows.flyMirrorRow.laid w) ∧ sizedMet enc Tryz.prog Tryz.f4 (OpenSpec.ofChange Rows.flyMirrorSpec) false w args)
      (Rows.flyMirrorSpec.post enc Tryz.prog Tryz.f4 false true false false) := by
  refine returnsInHanded_of_change_and (C := Tryz.checked) (X := fun w _ => laidMetH Tryz.prog Rows.flyMirrorRow.laid w) (fun _ _ _ hh h => h.of_heap hh) own started (by kernel_rfl) Tryz.func4
    (ChangeSpec.witness_at (enc := enc) (C := Tryz.checked) (os := os) (X := fun w _ => laidMetH Tryz.prog Rows.flyMirrorRow.laid w) false (laidIn (World.holding Tryz.prog os ⟨#[], #[], []⟩)) #[.slice none 0 0] 8 rfl (by kernel_rfl) (by kernel_rfl) (by kernel_rfl) (by kernel_rfl) (by kernel_rfl) (laidIn_met os _)) ?_
  intro W base args ds gs before hval0 hW _ hsz0 hL _
  have hsz : (DataW.weightsEach Tryz.prog (Tryz.f4.params.toList ++ Rows.flyMirrorSpec.plain.varTypes Tryz.prog) (ds ++ gs)).all (· ≤ reachBytes) = true := hsz0
  have hval : ∀ (j : Nat) t v, Tryz.f4.params[j]? = some t → args[j]? = some v → Value.okWide Tryz.prog W .any base t v := hval0
  have hW' := hW
  obtain ⟨p, q, hA0, hV, rfl, hfz, hnd⟩ := hW
  have hA : DataW.TrodAll enc Tryz.prog W 0 (fun _ => true) true Tryz.f4.params.toList args.toList ds p := hA0
  rw [Tryz.params4] at hA hval hsz
  obtain ⟨v0, d0, rfl, rfl, h0⟩ := trodAll_one hA
  obtain ⟨rfl, rfl⟩ := trodVars_none hV
  obtain ⟨⟨xa, ka, qa, na, ca, oa, LA, Ha⟩, s0⟩ := argX_of 1 (hval 0 22 v0 rfl rfl) h0 (fun x y e => sized_slice hsz (j := 0) (t := 22) (e := 47) rfl (by rw [e]; rfl) par_ty)
  refine (walk (known_of hL) Ha).mono fun e W' ⟨he, hg⟩ => ?_
  subst he
  exact ⟨_, rfl, post_of_same (pa := p) (pv := []) hW' (fun _ _ _ => trodAll_mk1 (shut_bool Tryz.underlying4 _)) (fun sp hsp => trodAll_mk1 (s0 W' sp hg fun y hy => hsp y (by simp [hy]))) (fun _ _ => rfl) rfl
    (hg.1.frame _) (tidy_frozen hg) (ok_one (by kernel_rfl) rfl (okWide_bool_mk Tryz.underlying4 _))⟩
theorem row_holds : Rows.FlyMirrorSaid :=
  OpenClaim.holds_of_wide 4 Tryz.f4 rfl rfl rfl rfl rfl rfl rfl ⟨rfl, rfl, rfl, rfl, rfl⟩ rfl rfl rfl rfl rfl (by kernel_rfl) Tryz.func4 (by kernel_rfl)
    (of_decide_eq_true (by kernel_rfl)) (by unfold Func.isWrapper; first | (rw [if_pos (by decide +kernel)]; kernel_rfl) | (rw [if_neg (by decide +kernel)]; exact ⟨rfl, rfl⟩))
    (fun os started H enc _ => lifted os started H enc)
theorem proved : Rows.FlyMirrorCardSaid :=
  Claim7.holds_tied_plain_at .later [] [.handle] true (true, "fa2d0004d57bf76555a5e7a3c3c360e4751bed62b92098bc3c14d1f1abbca985") true
    row_holds (fun _ h => by cases h) (by kernel_rfl) (fun _ h => by cases h) flyMirror_row_tie rfl ⟨rfl, rfl⟩ (by kernel_rfl) rfl
    (fun f fn hf hfn => by
      obtain rfl : f = 4 := Option.some.inj ((show Tryz.prog.funcNamed "tiller/tillerlaw18.FlyMirror" = some 4 by kernel_rfl).symm.trans hf) |>.symm
      obtain rfl : fn = Tryz.f4 := (Option.some.inj (Tryz.func4.symm.trans hfn)).symm
      exact ⟨by kernel_rfl, fun j t ht => by
        rw [Tryz.params4] at ht
        have hm : t ∈ [22] := by simpa using Array.mem_of_getElem? ht
        have hall : ([22].all fun u => !Tryz.prog.wantsStandIn u) = true := by kernel_rfl
        exact (show Tryz.prog.wantsStandIn t = false by simpa using List.all_eq_true.1 hall t hm)⟩)
    (by kernel_rfl)
end Go.Proofs.YtjkgnbdeklploaaGreatDoor.flyMirror
