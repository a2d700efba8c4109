/-
  PROVED HERE: for every input the law tillerlaw04.RndRounds returns true, and each argument reads afterwards as it read before: the pattern of any number, by any mode, and the flags. No condition.
-/
import Derived.Test.YtppbpbiibibiiaaG24
import Derived.Test.YtppbpbiibibiiaaG22
import Derived.Test.YtppbpbiibibiiaaG25
import Derived.Test.YtppbpbiibibiiaaRows
namespace Go.Proofs.Ytppbpbiibibiiaa.rndRounds
open Go.KRun Go.Pt Go.ChangeShapes Go.WideShapes Go.ChangeAt Go.RowKit Go.Wd Go.Rn Go.Nt
set_option linter.unusedVariables false

set_option maxRecDepth 100000
def bNbR (n : Bool) (e : Int) (x : W4) (b : Bool) : List Value × TypeId := ([.bool n, .int .i64 e, .int .u64 x.a, .int .u64 x.b, .int .u64 x.c, .int .u64 x.d, .bool b], 25)
def hRR (n b : Bool) (x : W4) (ex : Int) : Hp := ⟨2, [(wU (d16 (refT x b)), tU), bNbR n ex x b]⟩
theorem rr (n b : Bool) (x : W4) (ex m : Int) : Fits (reckon (tabH Try.prog extY conR hcRR) 300 3 [vN n ex x b, .int .i64 m] [cmp true, cmp true]) (.bool true) [(IntKind.i64.wrap (rnF m n (tw x b) (clp ex - 1)) == rnF m n (vO (hRR n b x ex) (some ⟨1, 0, none⟩) (d16 (refT x b)).length) (refE ex b), true), (sS n (rnP m n (tw x b) (clp ex - 1)) == sS n (rnP m n (vO (hRR n b x ex) (some ⟨1, 0, none⟩) (d16 (refT x b)).length) (refE ex b)), true), (okRo (hRR n b x ex) (some ⟨1, 0, none⟩) (d16 (refT x b)).length (d16 (refT x b)).length (refE ex b), true), (decide x.ok, true), (decide x.ok, true)] := ⟨by kernel_rfl, by kernel_rfl, by kernel_rfl, by kernel_rfl⟩
theorem refT_rT (x : W4) (b : Bool) : refT x b = rT x b := by cases b <;> rfl
theorem refE_j (e : Int) (b : Bool) : refE e b = cl5 e - jB b := by cases b <;> simp [refE, jB]
theorem jB_bd (b : Bool) : 0 ≤ jB b ∧ jB b ≤ 1 := by cases b <;> simp [jB]
theorem len17 {V : Nat} (h : V < 2 * 2 ^ 256) : (d16 V).length ≤ 17 := by
  have e : (65536 : Nat) ^ 16 = 2 ^ 256 := pow16 16
  rw [← e] at h
  refine db_len (by omega) 17 V ?_
  rw [Nat.pow_succ]
  generalize (65536 : Nat) ^ 16 = P at h ⊢
  omega
theorem rnF_bd (m : Int) (n : Bool) (T : Nat) (E : Int) : 0 ≤ rnF m n T E ∧ rnF m n T E ≤ 24 := by
  unfold rnF
  split
  · omega
  · split
    · omega
    · split
      · split <;> omega
      · omega
theorem walk (n b : Bool) (x : W4) (ex m : Int) (hx : x.ok) (w : World) : Calls Try.prog 3 #[vN n ex x b, .int .i64 m] w fun e w' => e = .returned (.bool true) ∧ Tidy w w' := by
  have kx : decide x.ok = true := decide_eq_true hx
  have hv : ([vN n ex x b, .int .i64 m].all (lt 0)) = true := rfl
  have hb : (hRR n b x ex).blk? 1 = some (wU (d16 (refT x b)), tU) := rfl
  have hV : (vO (hRR n b x ex) (some ⟨1, 0, none⟩) (d16 (refT x b)).length) = refT x b := vO_d16 hb
  have hj := jB_bd b
  have hc := cl5_bd ex
  have hl : (d16 (refT x b)).length ≤ 17 := by rw [refT_rT]; exact len17 (rT_lt hx b)
  have hs := same_round (m := m) (neg := n) hx b (C := clp ex) (D := cl5 ex) (by unfold clp cl5; split <;> split <;> split <;> split <;> omega)
  have hF := rnF_bd m n (rT x b) (cl5 ex - jB b)
  refine fits_calls (tabH_ok conR_ok hcRR_ok) (rr n b x ex m) (okCons ?_ (okCons ?_ (okCons ?_ (okCons kx (okL1 kx))))) hv (by rfl) w
  · rw [hV, refT_rT, refE_j, hs.2, wrapI (by omega) (by omega)]
    exact beq_self_eq_true _
  · rw [hV, refT_rT, refE_j, hs.1]
    exact beq_self_eq_true _
  · unfold okRo
    rw [rowP_d16 hb (by omega), rowOf_d16 hb, show canB (d16 (refT x b)) = true from canB_mk (can_db (by omega) _), blt_iff.2 (by omega), decide_eq_true (by rw [refE_j]; omega)]
    rfl
theorem cells0 {l : List Value} (h : okC [none, some .i64, some .u64, some .u64, some .u64, some .u64, none] l) : ∃ n ex xa xb xc xd b, l = [.bool n, .int .i64 ex, .int .u64 xa, .int .u64 xb, .int .u64 xc, .int .u64 xd, .bool b] ∧ (Lit.int .i64 ex).wf = true ∧ (Lit.int .u64 xa).wf = true ∧ (Lit.int .u64 xb).wf = true ∧ (Lit.int .u64 xc).wf = true ∧ (Lit.int .u64 xd).wf = true := by
  have hl := okC_length h
  obtain ⟨v0, v1, v2, v3, v4, v5, v6, rfl⟩ : ∃ v0 v1 v2 v3 v4 v5 v6, l = [v0, v1, v2, v3, v4, v5, v6] := by
    match l, hl with
    | [v0, v1, v2, v3, v4, v5, v6], _ => exact ⟨v0, v1, v2, v3, v4, v5, v6, rfl⟩
  obtain ⟨⟨n, rfl⟩, ⟨ex, rfl, kex⟩, ⟨xa, rfl, kxa⟩, ⟨xb, rfl, kxb⟩, ⟨xc, rfl, kxc⟩, ⟨xd, rfl, kxd⟩, ⟨b, rfl⟩, _⟩ := h
  exact ⟨n, ex, xa, xb, xc, xd, b, rfl, kex, kxa, kxb, kxc, kxd⟩
theorem own : ownKnob Try.prog.godebug = none := by kernel_rfl
set_option maxRecDepth 100000 in
theorem lifted (os : Os) (started : os.Started) (H : Type) (enc : TypeId × Value → H) :
    ReturnsInHanded {} Try.checked os 3 .any (Rows.rndRoundsSpec.pre6 enc Try.prog Try.f3 Rows.rndRoundsRow.domain false) (Rows.rndRoundsSpec.post enc Try.prog Try.f3 false true false false) := by
  refine returnsInHanded_of_change (C := Try.checked) own started (by kernel_rfl) Try.func3
    (ChangeSpec.witness6 (enc := enc) (C := Try.checked) false ⟨#[], #[.agg #[.bool false, .int .i64 0, .int .u64 0, .int .u64 0, .int .u64 0, .int .u64 0, .bool false], .int .i64 0], []⟩ 8 (by kernel_rfl) (by kernel_rfl) (by kernel_rfl) (by kernel_rfl)) ?_
  intro W base args ds gs before hval0 hW hcnd _
  have hval : ∀ (j : Nat) t v, Try.f3.params[j]? = some t → args[j]? = some v → Value.okWide Try.prog W .any base t v := hval0
  have hW' := hW
  obtain ⟨p, q, hA0, hV, rfl, hfz, hnd⟩ := hW
  have hA : DataW.TrodAll enc Try.prog W 0 (fun _ => true) true Try.f3.params.toList args.toList ds p := hA0
  rw [Try.params3] at hA hval
  obtain ⟨v0, v1, d0, d1, p0, p1, rfl, rfl, rfl, h0, h1⟩ := trodAll_two hA
  obtain ⟨rfl, rfl⟩ := trodVars_none hV
  obtain ⟨c0, rfl, r0⟩ := flat_open (L := [none, some .i64, some .u64, some .u64, some .u64, some .u64, none]) (by kernel_rfl) h0
  obtain ⟨cs0, rfl⟩ := agg_struct Try.underlying25 (hval 0 25 v0 rfl rfl)
  obtain ⟨n, ex, xa, xb, xc, xd, b, hcs0, kex, kxa, kxb, kxc, kxd⟩ := cells0 c0
  have hcs0' : cs0 = #[.bool n, .int .i64 ex, .int .u64 xa, .int .u64 xb, .int .u64 xc, .int .u64 xd, .bool b] := by
    have := congrArg List.toArray hcs0
    simpa [Value.cells] using this
  subst hcs0'
  obtain ⟨x1, rfl, rfl, rfl, w1⟩ := open_int Try.underlying3 (hval 1 3 v1 rfl rfl) h1
  clear hA0 hval0
  simp only [List.append_nil] at hW'
  refine (walk n b ⟨xa, xb, xc, xd⟩ ex x1 (w4_ok kxa kxb kxc kxd u64_bounds) W).mono fun e W' ⟨he, hg⟩ => ?_
  subst he
  exact ⟨_, rfl, post_of_same (pa := []) (pv := []) hW' (fun _ _ _ => trodAll_mk1 (shut_bool Try.underlying4 _))
    (fun sp _ => trodAll_mk2 (r0 _ _ _ _) (shut_int Try.underlying3 w1)) (fun _ _ => rfl) rfl
    (hg.1.frame _) (tidy_frozen hg) (ok_one (by kernel_rfl) rfl (okWide_bool_mk Try.underlying4 _))⟩

theorem proved : Rows.RndRoundsSaid :=
  OpenClaim.holds_of_wide 3 Try.f3 rfl rfl rfl rfl rfl rfl rfl ⟨rfl, rfl, rfl, rfl, rfl⟩ rfl rfl rfl rfl rfl (by kernel_rfl) Try.func3 (by kernel_rfl)
    (of_decide_eq_true (by kernel_rfl)) (by unfold Func.isWrapper; first | (rw [if_pos (by decide +kernel)]; kernel_rfl) | (rw [if_neg (by decide +kernel)]; exact ⟨rfl, rfl⟩))
    (fun os started H enc _ => lifted os started H enc)
end Go.Proofs.Ytppbpbiibibiiaa.rndRounds
