/-
  PROVED HERE: for every input the law tillerlaw04.RndSigns returns true, and each argument reads afterwards as it read before: with the other sign, and the modes of the sides changed, a number is rounded to the pattern with the other sign, with the same flags. No condition.
-/
import Derived.Test.YtppbpbiibibiiaaRnL
import Derived.Test.YtppbpbiibibiiaaFlat
import Derived.Test.YtppbpbiibibiiaaRows
namespace Go.Proofs.Ytppbpbiibibiiaa.rndSigns
open Go.KRun Go.Pt Go.ChangeShapes Go.WideShapes Go.ChangeAt Go.RowKit Go.Wd Go.Rn
set_option linter.unusedVariables false

theorem s3 (n b : Bool) (x : W4) (ex m : Int) : Fits (reckon (tabOf Try.prog extY conR true) 300 7 [vN n ex x b, .int .i64 m] [cmp true, cmp false, cmp true, cmp true]) (.bool true) [(rnF m n (tw x b) (clp ex - 1) == rnF 4 (!n) (tw x b) (clp ex - 1), true), (sS n (rnP m n (tw x b) (clp ex - 1)) == bXor (sS (!n) (rnP 4 (!n) (tw x b) (clp ex - 1))) 9223372036854775808, true), (decide x.ok, true), (decide x.ok, true), (m == 4, false), (m == 3, true)] := ⟨by kernel_rfl, by kernel_rfl, by kernel_rfl, by kernel_rfl⟩
theorem s4 (n b : Bool) (x : W4) (ex m : Int) : Fits (reckon (tabOf Try.prog extY conR true) 300 7 [vN n ex x b, .int .i64 m] [cmp false, cmp true, cmp true, cmp true]) (.bool true) [(rnF m n (tw x b) (clp ex - 1) == rnF 3 (!n) (tw x b) (clp ex - 1), true), (sS n (rnP m n (tw x b) (clp ex - 1)) == bXor (sS (!n) (rnP 3 (!n) (tw x b) (clp ex - 1))) 9223372036854775808, true), (decide x.ok, true), (decide x.ok, true), (m == 4, true), (m == 3, false)] := ⟨by kernel_rfl, by kernel_rfl, by kernel_rfl, by kernel_rfl⟩
theorem s0 (n b : Bool) (x : W4) (ex m : Int) : Fits (reckon (tabOf Try.prog extY conR true) 300 7 [vN n ex x b, .int .i64 m] [cmp false, cmp false, cmp true, cmp true]) (.bool true) [(rnF m n (tw x b) (clp ex - 1) == rnF m (!n) (tw x b) (clp ex - 1), true), (sS n (rnP m n (tw x b) (clp ex - 1)) == bXor (sS (!n) (rnP m (!n) (tw x b) (clp ex - 1))) 9223372036854775808, true), (decide x.ok, true), (decide x.ok, true), (m == 4, false), (m == 3, false)] := ⟨by kernel_rfl, by kernel_rfl, by kernel_rfl, by kernel_rfl⟩

theorem walk (n b : Bool) (x : W4) (ex m : Int) (hx : x.ok) (w : World) : Calls Try.prog 7 #[vN n ex x b, .int .i64 m] w fun e w' => e = .returned (.bool true) ∧ Tidy w w' := by
  have kx : decide x.ok = true := decide_eq_true hx
  have hf := rnF_swM m n (tw x b) (clp ex - 1)
  have hp := rnP_swM m n (tw x b) (clp ex - 1)
  have hb := rnP_bd m n (tw x b) (clp ex - 1)
  have hX := bXor_sS (n := n) hb
  have hv : ([vN n ex x b, .int .i64 m].all (lt 0)) = true := rfl
  by_cases h3 : m = 3
  · have e : swM m = 4 := by rw [h3]; rfl
    rw [e] at hf hp
    exact fits_calls (tabY_ok conR_ok) (s3 n b x ex m) (okCons (by rw [hf]; simp) (okCons (by rw [hp, hX]; simp) (okCons kx (okCons kx (okCons (by rw [h3]; rfl) (okL1 (by rw [h3]; rfl))))))) hv (by rfl) w
  · by_cases h4 : m = 4
    · have e : swM m = 3 := by rw [h4]; rfl
      rw [e] at hf hp
      exact fits_calls (tabY_ok conR_ok) (s4 n b x ex m) (okCons (by rw [hf]; simp) (okCons (by rw [hp, hX]; simp) (okCons kx (okCons kx (okCons (by rw [h4]; rfl) (okL1 (by rw [h4]; rfl))))))) hv (by rfl) w
    · have e : swM m = m := by unfold swM; rw [if_neg h3, if_neg h4]
      rw [e] at hf hp
      exact fits_calls (tabY_ok conR_ok) (s0 n b x ex m) (okCons (by rw [hf]; simp) (okCons (by rw [hp, hX]; simp) (okCons kx (okCons kx (okCons (by simp [h4]) (okL1 (by simp [h3]))))))) hv (by rfl) w
theorem cells0 {l : List Value} (h : okC [none, some .i64, some .u64, some .u64, some .u64, some .u64, none] l) : ∃ n ex xa xb xc xd b, l = [.bool n, .int .i64 ex, .int .u64 xa, .int .u64 xb, .int .u64 xc, .int .u64 xd, .bool b] ∧ (Lit.int .i64 ex).wf = true ∧ (Lit.int .u64 xa).wf = true ∧ (Lit.int .u64 xb).wf = true ∧ (Lit.int .u64 xc).wf = true ∧ (Lit.int .u64 xd).wf = true := by
  have hl := okC_length h
  obtain ⟨v0, v1, v2, v3, v4, v5, v6, rfl⟩ : ∃ v0 v1 v2 v3 v4 v5 v6, l = [v0, v1, v2, v3, v4, v5, v6] := by
    match l, hl with
    | [v0, v1, v2, v3, v4, v5, v6], _ => exact ⟨v0, v1, v2, v3, v4, v5, v6, rfl⟩
  obtain ⟨⟨n, rfl⟩, ⟨ex, rfl, kex⟩, ⟨xa, rfl, kxa⟩, ⟨xb, rfl, kxb⟩, ⟨xc, rfl, kxc⟩, ⟨xd, rfl, kxd⟩, ⟨b, rfl⟩, _⟩ := h
  exact ⟨n, ex, xa, xb, xc, xd, b, rfl, kex, kxa, kxb, kxc, kxd⟩
theorem own : ownKnob Try.prog.godebug = none := by kernel_rfl
set_option maxRecDepth 100000 in
theorem lifted (os : Os) (started : os.Started) (H : Type) (enc : TypeId × Value → H) :
    ReturnsInHanded {} Try.checked os 7 .any (Rows.rndSignsSpec.pre6 enc Try.prog Try.f7 Rows.rndSignsRow.domain false) (Rows.rndSignsSpec.post enc Try.prog Try.f7 false true false false) := by
  refine returnsInHanded_of_change (C := Try.checked) own started (by kernel_rfl) Try.func7
    (ChangeSpec.witness6 (enc := enc) (C := Try.checked) false ⟨#[], #[.agg #[.bool false, .int .i64 0, .int .u64 0, .int .u64 0, .int .u64 0, .int .u64 0, .bool false], .int .i64 0], []⟩ 8 (by kernel_rfl) (by kernel_rfl) (by kernel_rfl) (by kernel_rfl)) ?_
  intro W base args ds gs before hval0 hW hcnd _
  have hval : ∀ (j : Nat) t v, Try.f7.params[j]? = some t → args[j]? = some v → Value.okWide Try.prog W .any base t v := hval0
  have hW' := hW
  obtain ⟨p, q, hA0, hV, rfl, hfz, hnd⟩ := hW
  have hA : DataW.TrodAll enc Try.prog W 0 (fun _ => true) true Try.f7.params.toList args.toList ds p := hA0
  rw [Try.params7] at hA hval
  obtain ⟨v0, v1, d0, d1, p0, p1, rfl, rfl, rfl, h0, h1⟩ := trodAll_two hA
  obtain ⟨rfl, rfl⟩ := trodVars_none hV
  obtain ⟨c0, rfl, r0⟩ := flat_open (L := [none, some .i64, some .u64, some .u64, some .u64, some .u64, none]) (by kernel_rfl) h0
  obtain ⟨cs0, rfl⟩ := agg_struct Try.underlying25 (hval 0 25 v0 rfl rfl)
  obtain ⟨n, ex, xa, xb, xc, xd, b, hcs0, kex, kxa, kxb, kxc, kxd⟩ := cells0 c0
  have hcs0' : cs0 = #[.bool n, .int .i64 ex, .int .u64 xa, .int .u64 xb, .int .u64 xc, .int .u64 xd, .bool b] := by
    have := congrArg List.toArray hcs0
    simpa [Value.cells] using this
  subst hcs0'
  obtain ⟨x1, rfl, rfl, rfl, w1⟩ := open_int Try.underlying3 (hval 1 3 v1 rfl rfl) h1
  clear hA0 hval0
  simp only [List.append_nil] at hW'
  refine (walk n b ⟨xa, xb, xc, xd⟩ ex x1 (w4_ok kxa kxb kxc kxd u64_bounds) W).mono fun e W' ⟨he, hg⟩ => ?_
  subst he
  exact ⟨_, rfl, post_of_same (pa := []) (pv := []) hW' (fun _ _ _ => trodAll_mk1 (shut_bool Try.underlying4 _))
    (fun sp _ => trodAll_mk2 (r0 _ _ _ _) (shut_int Try.underlying3 w1)) (fun _ _ => rfl) rfl
    (hg.1.frame _) (tidy_frozen hg) (ok_one (by kernel_rfl) rfl (okWide_bool_mk Try.underlying4 _))⟩

theorem proved : Rows.RndSignsSaid :=
  OpenClaim.holds_of_wide 7 Try.f7 rfl rfl rfl rfl rfl rfl rfl ⟨rfl, rfl, rfl, rfl, rfl⟩ rfl rfl rfl rfl rfl (by kernel_rfl) Try.func7 (by kernel_rfl)
    (of_decide_eq_true (by kernel_rfl)) (by unfold Func.isWrapper; first | (rw [if_pos (by decide +kernel)]; kernel_rfl) | (rw [if_neg (by decide +kernel)]; exact ⟨rfl, rfl⟩))
    (fun os started H enc _ => lifted os started H enc)
end Go.Proofs.Ytppbpbiibibiiaa.rndSigns
