/-
  PROVED HERE: for every input the law tillerlaw04.RndBetween returns true, and each argument reads afterwards as it read before: by Down and Up a number lies between two patterns that are the same or next to one another; every other mode answers one of these; Zero the one nearer to 0. No condition.
-/
import Derived.Test.YtppbpbiibibiiaaRnL
import Derived.Test.YtppbpbiibibiiaaFlat
import Derived.Test.YtppbpbiibibiiaaRows
namespace Go.Proofs.Ytppbpbiibibiiaa.rndBetween
open Go.KRun Go.Pt Go.ChangeShapes Go.WideShapes Go.ChangeAt Go.RowKit Go.Wd Go.Rn
set_option linter.unusedVariables false

theorem bEf (b : Bool) (x : W4) (ex m : Int) : Fits (reckon (tabOf Try.prog extY conR true) 300 6 [vN false ex x b, .int .i64 m] [cmp false, cmp true, cmp true, cmp true, cmp true, cmp true, cmp true, cmp true, cmp true, cmp true]) (.bool true) [(sS false (rnP 4 false (tw x b) (clp ex - 1)) == sS false (rnP 3 false (tw x b) (clp ex - 1)), true), (sS false (rnP 4 false (tw x b) (clp ex - 1)) == sS false (rnP 3 false (tw x b) (clp ex - 1)), true), (f16 (rnF 2 false (tw x b) (clp ex - 1)) == 0, true), (sS false (rnP 4 false (tw x b) (clp ex - 1)) == sS false (rnP 3 false (tw x b) (clp ex - 1)), true), (f16 (rnF m false (tw x b) (clp ex - 1)) == 0, true), (sS false (rnP 4 false (tw x b) (clp ex - 1)) == sS false (rnP 3 false (tw x b) (clp ex - 1)), true), (f16 (rnF 3 false (tw x b) (clp ex - 1)) == 0, true), (sS false (rnP 4 false (tw x b) (clp ex - 1)) == sS false (rnP 3 false (tw x b) (clp ex - 1)), true), (f16 (rnF 4 false (tw x b) (clp ex - 1)) == 0, true), (sS false (rnP m false (tw x b) (clp ex - 1)) != sS false (rnP 4 false (tw x b) (clp ex - 1)), false), (decide x.ok, true), (decide x.ok, true), (decide x.ok, true), (decide x.ok, true)] := ⟨by kernel_rfl, by kernel_rfl, by kernel_rfl, by kernel_rfl⟩
theorem bLf (b : Bool) (x : W4) (ex m : Int) : Fits (reckon (tabOf Try.prog extY conR true) 300 6 [vN false ex x b, .int .i64 m] [cmp false, cmp false, cmp false, cmp false, cmp false, cmp false, cmp false, cmp false, cmp false, cmp false, cmp true, cmp true]) (.bool true) [(sS false (rnP 2 false (tw x b) (clp ex - 1)) == sS false (rnP 4 false (tw x b) (clp ex - 1)), true), (sS false (rnP 3 false (tw x b) (clp ex - 1)) == IntKind.u64.wrap (sS false (rnP 4 false (tw x b) (clp ex - 1)) + 1), true), (sS false (rnP 4 false (tw x b) (clp ex - 1)) == sS false (rnP 3 false (tw x b) (clp ex - 1)), false), (sS false (rnP 4 false (tw x b) (clp ex - 1)) == sS false (rnP 3 false (tw x b) (clp ex - 1)), false), (f16 (rnF 2 false (tw x b) (clp ex - 1)) == 0, false), (sS false (rnP 4 false (tw x b) (clp ex - 1)) == sS false (rnP 3 false (tw x b) (clp ex - 1)), false), (f16 (rnF m false (tw x b) (clp ex - 1)) == 0, false), (sS false (rnP 4 false (tw x b) (clp ex - 1)) == sS false (rnP 3 false (tw x b) (clp ex - 1)), false), (f16 (rnF 3 false (tw x b) (clp ex - 1)) == 0, false), (sS false (rnP 4 false (tw x b) (clp ex - 1)) == sS false (rnP 3 false (tw x b) (clp ex - 1)), false), (f16 (rnF 4 false (tw x b) (clp ex - 1)) == 0, false), (sS false (rnP m false (tw x b) (clp ex - 1)) != sS false (rnP 4 false (tw x b) (clp ex - 1)), false), (decide x.ok, true), (decide x.ok, true), (decide x.ok, true), (decide x.ok, true)] := ⟨by kernel_rfl, by kernel_rfl, by kernel_rfl, by kernel_rfl⟩
theorem bHf (b : Bool) (x : W4) (ex m : Int) : Fits (reckon (tabOf Try.prog extY conR true) 300 6 [vN false ex x b, .int .i64 m] [cmp true, cmp false, cmp false, cmp false, cmp false, cmp false, cmp false, cmp false, cmp false, cmp false, cmp false, cmp true, cmp true]) (.bool true) [(sS false (rnP 2 false (tw x b) (clp ex - 1)) == sS false (rnP 4 false (tw x b) (clp ex - 1)), true), (sS false (rnP 3 false (tw x b) (clp ex - 1)) == IntKind.u64.wrap (sS false (rnP 4 false (tw x b) (clp ex - 1)) + 1), true), (sS false (rnP 4 false (tw x b) (clp ex - 1)) == sS false (rnP 3 false (tw x b) (clp ex - 1)), false), (sS false (rnP 4 false (tw x b) (clp ex - 1)) == sS false (rnP 3 false (tw x b) (clp ex - 1)), false), (f16 (rnF 2 false (tw x b) (clp ex - 1)) == 0, false), (sS false (rnP 4 false (tw x b) (clp ex - 1)) == sS false (rnP 3 false (tw x b) (clp ex - 1)), false), (f16 (rnF m false (tw x b) (clp ex - 1)) == 0, false), (sS false (rnP 4 false (tw x b) (clp ex - 1)) == sS false (rnP 3 false (tw x b) (clp ex - 1)), false), (f16 (rnF 3 false (tw x b) (clp ex - 1)) == 0, false), (sS false (rnP 4 false (tw x b) (clp ex - 1)) == sS false (rnP 3 false (tw x b) (clp ex - 1)), false), (f16 (rnF 4 false (tw x b) (clp ex - 1)) == 0, false), (sS false (rnP m false (tw x b) (clp ex - 1)) != sS false (rnP 3 false (tw x b) (clp ex - 1)), false), (sS false (rnP m false (tw x b) (clp ex - 1)) != sS false (rnP 4 false (tw x b) (clp ex - 1)), true), (decide x.ok, true), (decide x.ok, true), (decide x.ok, true), (decide x.ok, true)] := ⟨by kernel_rfl, by kernel_rfl, by kernel_rfl, by kernel_rfl⟩
theorem bEt (b : Bool) (x : W4) (ex m : Int) : Fits (reckon (tabOf Try.prog extY conR true) 300 6 [vN true ex x b, .int .i64 m] [cmp false, cmp true, cmp true, cmp true, cmp true, cmp true, cmp true, cmp true, cmp true, cmp true]) (.bool true) [(sS true (rnP 4 true (tw x b) (clp ex - 1)) == sS true (rnP 3 true (tw x b) (clp ex - 1)), true), (sS true (rnP 4 true (tw x b) (clp ex - 1)) == sS true (rnP 3 true (tw x b) (clp ex - 1)), true), (f16 (rnF 2 true (tw x b) (clp ex - 1)) == 0, true), (sS true (rnP 4 true (tw x b) (clp ex - 1)) == sS true (rnP 3 true (tw x b) (clp ex - 1)), true), (f16 (rnF m true (tw x b) (clp ex - 1)) == 0, true), (sS true (rnP 4 true (tw x b) (clp ex - 1)) == sS true (rnP 3 true (tw x b) (clp ex - 1)), true), (f16 (rnF 3 true (tw x b) (clp ex - 1)) == 0, true), (sS true (rnP 4 true (tw x b) (clp ex - 1)) == sS true (rnP 3 true (tw x b) (clp ex - 1)), true), (f16 (rnF 4 true (tw x b) (clp ex - 1)) == 0, true), (sS true (rnP m true (tw x b) (clp ex - 1)) != sS true (rnP 4 true (tw x b) (clp ex - 1)), false), (decide x.ok, true), (decide x.ok, true), (decide x.ok, true), (decide x.ok, true)] := ⟨by kernel_rfl, by kernel_rfl, by kernel_rfl, by kernel_rfl⟩
theorem bLt (b : Bool) (x : W4) (ex m : Int) : Fits (reckon (tabOf Try.prog extY conR true) 300 6 [vN true ex x b, .int .i64 m] [cmp false, cmp false, cmp false, cmp false, cmp false, cmp false, cmp false, cmp false, cmp false, cmp false, cmp true, cmp true]) (.bool true) [(sS true (rnP 2 true (tw x b) (clp ex - 1)) == sS true (rnP 3 true (tw x b) (clp ex - 1)), true), (bNot (sS true (rnP 4 true (tw x b) (clp ex - 1))) 9223372036854775808 == IntKind.u64.wrap (bNot (sS true (rnP 3 true (tw x b) (clp ex - 1))) 9223372036854775808 + 1), true), (sS true (rnP 4 true (tw x b) (clp ex - 1)) == sS true (rnP 3 true (tw x b) (clp ex - 1)), false), (sS true (rnP 4 true (tw x b) (clp ex - 1)) == sS true (rnP 3 true (tw x b) (clp ex - 1)), false), (f16 (rnF 2 true (tw x b) (clp ex - 1)) == 0, false), (sS true (rnP 4 true (tw x b) (clp ex - 1)) == sS true (rnP 3 true (tw x b) (clp ex - 1)), false), (f16 (rnF m true (tw x b) (clp ex - 1)) == 0, false), (sS true (rnP 4 true (tw x b) (clp ex - 1)) == sS true (rnP 3 true (tw x b) (clp ex - 1)), false), (f16 (rnF 3 true (tw x b) (clp ex - 1)) == 0, false), (sS true (rnP 4 true (tw x b) (clp ex - 1)) == sS true (rnP 3 true (tw x b) (clp ex - 1)), false), (f16 (rnF 4 true (tw x b) (clp ex - 1)) == 0, false), (sS true (rnP m true (tw x b) (clp ex - 1)) != sS true (rnP 4 true (tw x b) (clp ex - 1)), false), (decide x.ok, true), (decide x.ok, true), (decide x.ok, true), (decide x.ok, true)] := ⟨by kernel_rfl, by kernel_rfl, by kernel_rfl, by kernel_rfl⟩
theorem bHt (b : Bool) (x : W4) (ex m : Int) : Fits (reckon (tabOf Try.prog extY conR true) 300 6 [vN true ex x b, .int .i64 m] [cmp true, cmp false, cmp false, cmp false, cmp false, cmp false, cmp false, cmp false, cmp false, cmp false, cmp false, cmp true, cmp true]) (.bool true) [(sS true (rnP 2 true (tw x b) (clp ex - 1)) == sS true (rnP 3 true (tw x b) (clp ex - 1)), true), (bNot (sS true (rnP 4 true (tw x b) (clp ex - 1))) 9223372036854775808 == IntKind.u64.wrap (bNot (sS true (rnP 3 true (tw x b) (clp ex - 1))) 9223372036854775808 + 1), true), (sS true (rnP 4 true (tw x b) (clp ex - 1)) == sS true (rnP 3 true (tw x b) (clp ex - 1)), false), (sS true (rnP 4 true (tw x b) (clp ex - 1)) == sS true (rnP 3 true (tw x b) (clp ex - 1)), false), (f16 (rnF 2 true (tw x b) (clp ex - 1)) == 0, false), (sS true (rnP 4 true (tw x b) (clp ex - 1)) == sS true (rnP 3 true (tw x b) (clp ex - 1)), false), (f16 (rnF m true (tw x b) (clp ex - 1)) == 0, false), (sS true (rnP 4 true (tw x b) (clp ex - 1)) == sS true (rnP 3 true (tw x b) (clp ex - 1)), false), (f16 (rnF 3 true (tw x b) (clp ex - 1)) == 0, false), (sS true (rnP 4 true (tw x b) (clp ex - 1)) == sS true (rnP 3 true (tw x b) (clp ex - 1)), false), (f16 (rnF 4 true (tw x b) (clp ex - 1)) == 0, false), (sS true (rnP m true (tw x b) (clp ex - 1)) != sS true (rnP 3 true (tw x b) (clp ex - 1)), false), (sS true (rnP m true (tw x b) (clp ex - 1)) != sS true (rnP 4 true (tw x b) (clp ex - 1)), true), (decide x.ok, true), (decide x.ok, true), (decide x.ok, true), (decide x.ok, true)] := ⟨by kernel_rfl, by kernel_rfl, by kernel_rfl, by kernel_rfl⟩

theorem walk (n b : Bool) (x : W4) (ex m : Int) (hx : x.ok) (w : World) : Calls Try.prog 6 #[vN n ex x b, .int .i64 m] w fun e w' => e = .returned (.bool true) ∧ Tidy w w' := by
  have hv : ([vN n ex x b, .int .i64 m].all (lt 0)) = true := rfl
  cases hi : inex (tw x b) (clp ex - 1) with
  | false =>
    have h2 := fun k => (exact_of (m := k) (neg := n) hi).1
    have f2 := fun k => (exact_of (m := k) (neg := n) hi).2
    cases n
    · exact fits_calls (tabY_ok conR_ok) (bEf b x ex m) (by simp [okCs, okNl, h2, f2, f16_0, hx]) hv (by rfl) w
    · exact fits_calls (tabY_ok conR_ok) (bEt b x ex m) (by simp [okCs, okNl, h2, f2, f16_0, hx]) hv (by rfl) w
  | true =>
    have hc := cut_bd hi
    have f2 := fun k => f16_in (inex_F (m := k) (neg := n) hi)
    have h2 := rnP_cut n (tw x b) (clp ex - 1)
    obtain ⟨h3, h4⟩ := inex_side (neg := n) hi
    have hP := inex_P (m := m) (neg := n) hi
    have kx : decide x.ok = true := decide_eq_true hx
    generalize cutP (tw x b) (clp ex - 1) = c at *
    cases n
    · simp only [Bool.false_eq_true, if_false, Int.add_zero] at h3 h4
      have e1 : (c == c + 1) = false := by simp; omega
      have e3 : (c + 1 == IntKind.u64.wrap (c + 1)) = true := by rw [wrapU' ⟨by omega, by omega⟩]; simp
      rcases hP with hm | hm
      · exact fits_calls (tabY_ok conR_ok) (bLf b x ex m) (by simp only [okCs, okNl, h2, h3, h4, hm, f2, kx, e1, e3, sS, Bool.false_eq_true, if_false, beq_self_eq_true, bne_self_eq_false, and_self]) hv (by rfl) w
      · have e2 : (c + 1 != c) = true := by simp; omega
        exact fits_calls (tabY_ok conR_ok) (bHf b x ex m) (by simp only [okCs, okNl, h2, h3, h4, hm, f2, kx, e1, e2, e3, sS, Bool.false_eq_true, if_false, beq_self_eq_true, bne_self_eq_false, and_self]) hv (by rfl) w
    · simp only [if_true, Int.add_zero] at h3 h4
      have e0 : (sS true (c + 1) == sS true c) = false := by simp [sS_inj]; omega
      have e2 : (sS true c != sS true (c + 1)) = true := by simp [sS_inj]; omega
      have e3 : (c + 1 == IntKind.u64.wrap (c + 1)) = true := by rw [wrapU' ⟨by omega, by omega⟩]; simp
      have g1 := bNot_sS (n := true) (p := c) ⟨by omega, by omega⟩
      have g2 := bNot_sS (n := true) (p := c + 1) ⟨by omega, by omega⟩
      rcases hP with hm | hm
      · exact fits_calls (tabY_ok conR_ok) (bHt b x ex m) (by simp only [okCs, okNl, h2, h3, h4, hm, f2, kx, e0, e2, e3, g1, g2, beq_self_eq_true, bne_self_eq_false, and_self]) hv (by rfl) w
      · exact fits_calls (tabY_ok conR_ok) (bLt b x ex m) (by simp only [okCs, okNl, h2, h3, h4, hm, f2, kx, e0, e3, g1, g2, beq_self_eq_true, bne_self_eq_false, and_self]) hv (by rfl) w
theorem cells0 {l : List Value} (h : okC [none, some .i64, some .u64, some .u64, some .u64, some .u64, none] l) : ∃ n ex xa xb xc xd b, l = [.bool n, .int .i64 ex, .int .u64 xa, .int .u64 xb, .int .u64 xc, .int .u64 xd, .bool b] ∧ (Lit.int .i64 ex).wf = true ∧ (Lit.int .u64 xa).wf = true ∧ (Lit.int .u64 xb).wf = true ∧ (Lit.int .u64 xc).wf = true ∧ (Lit.int .u64 xd).wf = true := by
  have hl := okC_length h
  obtain ⟨v0, v1, v2, v3, v4, v5, v6, rfl⟩ : ∃ v0 v1 v2 v3 v4 v5 v6, l = [v0, v1, v2, v3, v4, v5, v6] := by
    match l, hl with
    | [v0, v1, v2, v3, v4, v5, v6], _ => exact ⟨v0, v1, v2, v3, v4, v5, v6, rfl⟩
  obtain ⟨⟨n, rfl⟩, ⟨ex, rfl, kex⟩, ⟨xa, rfl, kxa⟩, ⟨xb, rfl, kxb⟩, ⟨xc, rfl, kxc⟩, ⟨xd, rfl, kxd⟩, ⟨b, rfl⟩, _⟩ := h
  exact ⟨n, ex, xa, xb, xc, xd, b, rfl, kex, kxa, kxb, kxc, kxd⟩
theorem own : ownKnob Try.prog.godebug = none := by kernel_rfl
set_option maxRecDepth 100000 in
theorem lifted (os : Os) (started : os.Started) (H : Type) (enc : TypeId × Value → H) :
    ReturnsInHanded {} Try.checked os 6 .any (Rows.rndBetweenSpec.pre6 enc Try.prog Try.f6 Rows.rndBetweenRow.domain false) (Rows.rndBetweenSpec.post enc Try.prog Try.f6 false true false false) := by
  refine returnsInHanded_of_change (C := Try.checked) own started (by kernel_rfl) Try.func6
    (ChangeSpec.witness6 (enc := enc) (C := Try.checked) false ⟨#[], #[.agg #[.bool false, .int .i64 0, .int .u64 0, .int .u64 0, .int .u64 0, .int .u64 0, .bool false], .int .i64 0], []⟩ 8 (by kernel_rfl) (by kernel_rfl) (by kernel_rfl) (by kernel_rfl)) ?_
  intro W base args ds gs before hval0 hW hcnd _
  have hval : ∀ (j : Nat) t v, Try.f6.params[j]? = some t → args[j]? = some v → Value.okWide Try.prog W .any base t v := hval0
  have hW' := hW
  obtain ⟨p, q, hA0, hV, rfl, hfz, hnd⟩ := hW
  have hA : DataW.TrodAll enc Try.prog W 0 (fun _ => true) true Try.f6.params.toList args.toList ds p := hA0
  rw [Try.params6] at hA hval
  obtain ⟨v0, v1, d0, d1, p0, p1, rfl, rfl, rfl, h0, h1⟩ := trodAll_two hA
  obtain ⟨rfl, rfl⟩ := trodVars_none hV
  obtain ⟨c0, rfl, r0⟩ := flat_open (L := [none, some .i64, some .u64, some .u64, some .u64, some .u64, none]) (by kernel_rfl) h0
  obtain ⟨cs0, rfl⟩ := agg_struct Try.underlying25 (hval 0 25 v0 rfl rfl)
  obtain ⟨n, ex, xa, xb, xc, xd, b, hcs0, kex, kxa, kxb, kxc, kxd⟩ := cells0 c0
  have hcs0' : cs0 = #[.bool n, .int .i64 ex, .int .u64 xa, .int .u64 xb, .int .u64 xc, .int .u64 xd, .bool b] := by
    have := congrArg List.toArray hcs0
    simpa [Value.cells] using this
  subst hcs0'
  obtain ⟨x1, rfl, rfl, rfl, w1⟩ := open_int Try.underlying3 (hval 1 3 v1 rfl rfl) h1
  clear hA0 hval0
  simp only [List.append_nil] at hW'
  refine (walk n b ⟨xa, xb, xc, xd⟩ ex x1 (w4_ok kxa kxb kxc kxd u64_bounds) W).mono fun e W' ⟨he, hg⟩ => ?_
  subst he
  exact ⟨_, rfl, post_of_same (pa := []) (pv := []) hW' (fun _ _ _ => trodAll_mk1 (shut_bool Try.underlying4 _))
    (fun sp _ => trodAll_mk2 (r0 _ _ _ _) (shut_int Try.underlying3 w1)) (fun _ _ => rfl) rfl
    (hg.1.frame _) (tidy_frozen hg) (ok_one (by kernel_rfl) rfl (okWide_bool_mk Try.underlying4 _))⟩

theorem proved : Rows.RndBetweenSaid :=
  OpenClaim.holds_of_wide 6 Try.f6 rfl rfl rfl rfl rfl rfl rfl ⟨rfl, rfl, rfl, rfl, rfl⟩ rfl rfl rfl rfl rfl (by kernel_rfl) Try.func6 (by kernel_rfl)
    (of_decide_eq_true (by kernel_rfl)) (by unfold Func.isWrapper; first | (rw [if_pos (by decide +kernel)]; kernel_rfl) | (rw [if_neg (by decide +kernel)]; exact ⟨rfl, rfl⟩))
    (fun os started H enc _ => lifted os started H enc)
end Go.Proofs.Ytppbpbiibibiiaa.rndBetween
