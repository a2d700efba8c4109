/-
  PROVED HERE: for every input the law tillerlaw01.WideMoves returns true, and each argument reads afterwards as it read before: any number of 256 bits, moved up and down by any count, and whether a bit is lost, are as the document's own reckoning says. No condition.
-/
import Derived.Test.YtdahpclbjeeeiaaSure
import Derived.Test.YtdahpclbjeeeiaaConR8
import Derived.Test.YtdahpclbjeeeiaaRow
import Derived.Test.YtdahpclbjeeeiaaRows
namespace Go.Proofs.Ytdahpclbjeeeiaa.wideMoves
open Go.KRun Go.Wd Go.ChangeShapes Go.WideShapes Go.ChangeAt Go.RowKit
set_option linter.unusedVariables false

theorem rshrB_ok : AnsOk 17 (g1n shrB) := g1n_ok fun x n hx h0 h1 s v s' lg h hl w => by
  unfold shrB at h
  cases h
  rw [pickC_ok hl]
  exact rshr_calls x n hx h0 h1 w
def con : Con := alt 16 (g1n shrB) (alt 17 (g1n shrB) (alt 18 (g1n (plain1n shlV4)) (alt 19 (g1n (plain1n shlV4)) (alt 13 gSure conN))))
theorem con_ok : ConOk con := alt_ok Try.func16 rfl shrB_ok (alt_ok Try.func17 rfl rshrB_ok (alt_ok Try.func18 rfl (plain1n_ok shl_calls) (alt_ok Try.func19 rfl (plain1n_ok rshl_calls) (alt_ok Try.func13 rfl gSure_ok conN_ok))))

def ls (x : W4) : Bool × Bool := (eqW x x, true)
def lg (x : W4) (n : Int) (d : Bool) : Log := [ls (shrW x n), ls (shlW x n), lk x n, lk x n, lk x n, (shrL x n, d), lk x n, (shrL x n, d)]
set_option maxRecDepth 100000 in
theorem law (x : W4) (n : Int) (d : Bool) : Fits (reckon (tabOf Try.prog extY con true) 3000 5 [vW x, .int .i64 n] [cmp d, cmp d, sam true, sam true]) (.bool true) (lg x n d) := by
  cases d <;> exact ⟨by kernel_rfl, by kernel_rfl, by kernel_rfl, by kernel_rfl⟩
set_option maxRecDepth 100000 in
theorem walk (x : W4) (n : Int) (hx : x.ok) (hn : -9223372036854775808 ≤ n ∧ n ≤ 9223372036854775807) (w : World) : Calls Try.prog 5 #[vW x, .int .i64 n] w fun e w' => e = .returned (.bool true) ∧ Tidy w w' := by
  have q1 := lk_ok (n := n) hx hn.1 hn.2
  have q2 : ∀ k, (ls k).1 = (ls k).2 := fun k => eqW_iff.2 rfl
  have ql : (shrL x n, shrL x n).1 = (shrL x n, shrL x n).2 := rfl
  exact fits_calls (tabY_ok con_ok) (law x n (shrL x n)) (okCons (q2 _) (okCons (q2 _) (okCons q1 (okCons q1 (okCons q1 (okCons ql (okCons q1 (okL1 ql)))))))) (by rfl) (by rfl) w

theorem own : ownKnob Try.prog.godebug = none := by kernel_rfl
theorem cellsA : Try.prog.cellsOf 23 = 4 := by kernel_rfl
theorem cellsE : Try.prog.cellsOf 22 = 1 := by kernel_rfl
set_option maxRecDepth 100000 in
theorem lifted (os : Os) (started : os.Started) (H : Type) (enc : TypeId × Value → H) :
    ReturnsInHanded {} Try.checked os 5 .any (Rows.wideMovesSpec.pre6 enc Try.prog Try.f5 Rows.wideMovesRow.domain false) (Rows.wideMovesSpec.post enc Try.prog Try.f5 false true false false) := by
  refine returnsInHanded_of_change (C := Try.checked) own started (by kernel_rfl) Try.func5
    (ChangeSpec.witness6 (enc := enc) (C := Try.checked) false ⟨#[], #[.agg #[.int .u64 0, .int .u64 0, .int .u64 0, .int .u64 0], .int .i64 0], []⟩ 8 (by kernel_rfl) (by kernel_rfl) (by kernel_rfl) (by kernel_rfl)) ?_
  intro W base args ds gs before hval0 hW hcnd _
  have hval : ∀ (j : Nat) t v, Try.f5.params[j]? = some t → args[j]? = some v → Value.okWide Try.prog W .any base t v := hval0
  have hW' := hW
  obtain ⟨p, q, hA0, hV, rfl, hfz, hnd⟩ := hW
  have hA : DataW.TrodAll enc Try.prog W 0 (fun _ => true) true Try.f5.params.toList args.toList ds p := hA0
  rw [Try.params5] at hA hval
  obtain ⟨v0, v1, d0, d1, p0, p1, rfl, rfl, rfl, h0, h1⟩ := trodAll_two hA
  obtain ⟨rfl, rfl⟩ := trodVars_none hV
  obtain ⟨a0, a1, a2, a3, rfl, rfl, rfl, wa0, wa1, wa2, wa3⟩ := open_w4 Try.underlying23 Try.underlying22 cellsA cellsE (hval 0 23 v0 rfl rfl) h0
  obtain ⟨n, rfl, rfl, rfl, wn⟩ := open_int Try.underlying3 (hval 1 3 v1 rfl rfl) h1
  clear hA0 hval0
  simp only [List.append_nil] at hW'
  refine (walk ⟨a0, a1, a2, a3⟩ n ⟨u64_bounds wa0, u64_bounds wa1, u64_bounds wa2, u64_bounds wa3⟩ (i64_bounds wn) W).mono fun e W' ⟨he, hg⟩ => ?_
  subst he
  exact ⟨_, rfl, post_of_same (pa := []) (pv := []) hW' (fun _ _ _ => trodAll_mk1 (shut_bool Try.underlying4 _))
    (fun sp _ => trodAll_mk2 (shut_w4 Try.underlying23 Try.underlying22 cellsA cellsE wa0 wa1 wa2 wa3) (shut_int Try.underlying3 wn)) (fun _ _ => rfl) rfl
    (hg.1.frame _) (tidy_frozen hg) (ok_one (by kernel_rfl) rfl (okWide_bool_mk Try.underlying4 _))⟩

theorem proved : Rows.WideMovesSaid :=
  OpenClaim.holds_of_wide 5 Try.f5 rfl rfl rfl rfl rfl rfl rfl ⟨rfl, rfl, rfl, rfl, rfl⟩ rfl rfl rfl rfl rfl (by kernel_rfl) Try.func5 (by kernel_rfl)
    (of_decide_eq_true (by kernel_rfl)) (by unfold Func.isWrapper; first | (rw [if_pos (by decide +kernel)]; kernel_rfl) | (rw [if_neg (by decide +kernel)]; exact ⟨rfl, rfl⟩))
    (fun os started H enc _ => lifted os started H enc)
end Go.Proofs.Ytdahpclbjeeeiaa.wideMoves
