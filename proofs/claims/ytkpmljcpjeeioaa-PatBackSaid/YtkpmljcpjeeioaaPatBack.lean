/-
  PROVED HERE: for every input the law tillerlaw03.PatBack returns true, and each argument reads afterwards as it read before: the parts of a pattern make it again, and parts that make a pattern are its own. No condition.
-/
import Derived.Test.YtkpmljcpjeeioaaPatC
import Derived.Test.YtkpmljcpjeeioaaFlat
import Derived.Test.YtkpmljcpjeeioaaRows
namespace Go.Proofs.Ytkpmljcpjeeioaa.patBack
open Go.KRun Go.Pt Go.ChangeShapes Go.WideShapes Go.ChangeAt Go.RowKit
set_option linter.unusedVariables false

theorem b_may (p : Int) (m : Bool) (c e s : Int) : Fits (reckon (tabOf Try.prog extY conM true) 3000 5 [.int .u64 p, vP m c e s] [cmp true, cmp true, cmp true, sam true]) (.bool true) [(sgn (joinN m c e s) == m && (cl (joinN m c e s) == c && (xp (joinN m c e s) == e && (sg (joinN m c e s) == s && true))), true), (decide (U (joinN m c e s)), true), (joinN (sgn p) (cl p) (xp p) (sg p) == p, true), (decide (U s), true), (mayB m c e s, true), (decide (U (sg p)), true), (mayB (sgn p) (cl p) (xp p) (sg p), true), (decide (U p), true)] := ⟨by kernel_rfl, by kernel_rfl, by kernel_rfl, by kernel_rfl⟩
theorem b_not (p : Int) (m : Bool) (c e s : Int) : Fits (reckon (tabOf Try.prog extY conM true) 3000 5 [.int .u64 p, vP m c e s] [cmp true, cmp false, cmp true]) (.bool true) [(joinN (sgn p) (cl p) (xp p) (sg p) == p, true), (decide (U s), true), (mayB m c e s, false), (decide (U (sg p)), true), (mayB (sgn p) (cl p) (xp p) (sg p), true), (decide (U p), true)] := ⟨by kernel_rfl, by kernel_rfl, by kernel_rfl, by kernel_rfl⟩

theorem walk (p : Int) (m : Bool) (c e s : Int) (hp : U p) (hs : U s) (w : World) : Calls Try.prog 5 #[.int .u64 p, vP m c e s] w fun e w' => e = .returned (.bool true) ∧ Tidy w w' := by
  have hu : decide (U p) = true := decide_eq_true hp
  have hu' : decide (U s) = true := decide_eq_true hs
  have hj : decide (U (joinN m c e s)) = true := decide_eq_true (join_U m c e s)
  have hg : decide (U (sg p)) = true := decide_eq_true (by
    have := fr_lt p
    unfold sg U
    split
    · omega
    · split <;> omega)
  have h1 : (joinN (sgn p) (cl p) (xp p) (sg p) == p) = true := by rw [join_take hp]; simp
  have h2 := may_take hp
  cases hm : mayB m c e s with
  | true =>
    refine fits_calls (tabY_ok conM_ok) (b_may p m c e s) ?_ (by rfl) (by rfl) w
    have h3 : (sgn (joinN m c e s) == m && (cl (joinN m c e s) == c && (xp (joinN m c e s) == e && (sg (joinN m c e s) == s && true)))) = true := hm
    simp only [okCs, okNl, hu, hu', hj, hg, h1, h2, h3, hm, and_self]
  | false =>
    refine fits_calls (tabY_ok conM_ok) (b_not p m c e s) ?_ (by rfl) (by rfl) w
    simp only [okCs, okNl, hu, hu', hg, h1, h2, hm, and_self]
theorem cells4 {l : List Value} (h : okC [none, some .i64, some .i64, some .u64] l) : ∃ m c e s, l = [.bool m, .int .i64 c, .int .i64 e, .int .u64 s] ∧ (Lit.int .u64 s).wf = true := by
  have hl := okC_length h
  obtain ⟨a, b, c, d, rfl⟩ : ∃ a b c d, l = [a, b, c, d] := by
    match l, hl with
    | [a, b, c, d], _ => exact ⟨a, b, c, d, rfl⟩
  obtain ⟨⟨m, rfl⟩, ⟨c, rfl, _⟩, ⟨e, rfl, _⟩, ⟨s, rfl, hs⟩, _⟩ := h
  exact ⟨m, c, e, s, rfl, hs⟩

theorem own : ownKnob Try.prog.godebug = none := by kernel_rfl
set_option maxRecDepth 100000 in
theorem lifted (os : Os) (started : os.Started) (H : Type) (enc : TypeId × Value → H) :
    ReturnsInHanded {} Try.checked os 5 .any (Rows.patBackSpec.pre6 enc Try.prog Try.f5 Rows.patBackRow.domain false) (Rows.patBackSpec.post enc Try.prog Try.f5 false true false false) := by
  refine returnsInHanded_of_change (C := Try.checked) own started (by kernel_rfl) Try.func5
    (ChangeSpec.witness6 (enc := enc) (C := Try.checked) false ⟨#[], #[.int .u64 0, .agg #[.bool false, .int .i64 0, .int .i64 0, .int .u64 0]], []⟩ 8 (by kernel_rfl) (by kernel_rfl) (by kernel_rfl) (by kernel_rfl)) ?_
  intro W base args ds gs before hval0 hW hcnd _
  have hval : ∀ (j : Nat) t v, Try.f5.params[j]? = some t → args[j]? = some v → Value.okWide Try.prog W .any base t v := hval0
  have hW' := hW
  obtain ⟨p, q, hA0, hV, rfl, hfz, hnd⟩ := hW
  have hA : DataW.TrodAll enc Try.prog W 0 (fun _ => true) true Try.f5.params.toList args.toList ds p := hA0
  rw [Try.params5] at hA hval
  obtain ⟨v0, v1, d0, d1, p0, p1, rfl, rfl, rfl, h0, h1⟩ := trodAll_two hA
  obtain ⟨rfl, rfl⟩ := trodVars_none hV
  obtain ⟨x, rfl, rfl, rfl, wx⟩ := open_int Try.underlying22 (hval 0 22 v0 rfl rfl) h0
  obtain ⟨c1, rfl, r1⟩ := flat_open (L := [none, some .i64, some .i64, some .u64]) (by kernel_rfl) h1
  obtain ⟨cs, rfl⟩ := agg_struct Try.underlying26 (hval 1 26 v1 rfl rfl)
  obtain ⟨m, c, e, s, hcs, ws⟩ := cells4 c1
  have hcs' : cs = #[.bool m, .int .i64 c, .int .i64 e, .int .u64 s] := by
    have := congrArg List.toArray hcs
    simpa [Value.cells] using this
  subst hcs'
  clear hA0 hval0
  simp only [List.append_nil] at hW'
  refine (walk x m c e s (u64_bounds wx) (u64_bounds ws) W).mono fun e W' ⟨he, hg⟩ => ?_
  subst he
  exact ⟨_, rfl, post_of_same (pa := []) (pv := []) hW' (fun _ _ _ => trodAll_mk1 (shut_bool Try.underlying4 _)) (fun sp _ => trodAll_mk2 (shut_int Try.underlying22 wx) (r1 _ _ _ _)) (fun _ _ => rfl) rfl
    (hg.1.frame _) (tidy_frozen hg) (ok_one (by kernel_rfl) rfl (okWide_bool_mk Try.underlying4 _))⟩

theorem proved : Rows.PatBackSaid :=
  OpenClaim.holds_of_wide 5 Try.f5 rfl rfl rfl rfl rfl rfl rfl ⟨rfl, rfl, rfl, rfl, rfl⟩ rfl rfl rfl rfl rfl (by kernel_rfl) Try.func5 (by kernel_rfl)
    (of_decide_eq_true (by kernel_rfl)) (by unfold Func.isWrapper; first | (rw [if_pos (by decide +kernel)]; kernel_rfl) | (rw [if_neg (by decide +kernel)]; exact ⟨rfl, rfl⟩))
    (fun os started H enc _ => lifted os started H enc)
end Go.Proofs.Ytkpmljcpjeeioaa.patBack
