/-
  PROVED HERE: for every input the law tillerlaw01.WideMuls returns true, and each argument reads afterwards as it read before: the product of any two numbers of 256 bits, all its bits, is as the document's own reckoning says. No condition.
-/
import Derived.Test.YtdahpclbjeeeiaaSure
import Derived.Test.YtdahpclbjeeeiaaConM4
import Derived.Test.YtdahpclbjeeeiaaRow
import Derived.Test.YtdahpclbjeeeiaaRows
namespace Go.Proofs.Ytdahpclbjeeeiaa.wideMuls
open Go.KRun Go.Wd Go.ChangeShapes Go.WideShapes Go.ChangeAt Go.RowKit
set_option linter.unusedVariables false

def con : Con := alt 14 (g2 (plain2 mulV4)) (alt 15 (g2 (plain2 mulV4)) (alt 13 gSure conN))
theorem con_ok : ConOk con := alt_ok Try.func14 rfl (plain2_ok mul_calls) (alt_ok Try.func15 rfl (plain2_ok rmul_calls) (alt_ok Try.func13 rfl gSure_ok conN_ok))
def pr (x y : W4) : Int := x.val * y.val
def hp (x y : W4) : Int := x.val * y.val / 115792089237316195423570985008687907853269984665640564039457584007913129639936
def l2 (x y : W4) : Bool × Bool := (decide (x.ok ∧ y.ok), true)
def ls (k : Int) : Bool × Bool := (eqW (W4.of k) (W4.of k), true)
set_option maxRecDepth 100000 in
theorem law (x y : W4) : Fits (reckon (tabOf Try.prog extY con true) 3000 4 [vW x, vW y] [sam true, sam true]) (.bool true) [ls (hp x y), ls (pr x y), l2 x y, l2 x y] := ⟨by kernel_rfl, by kernel_rfl, by kernel_rfl, by kernel_rfl⟩
set_option maxRecDepth 100000 in
theorem walk (x y : W4) (hx : x.ok) (hy : y.ok) (w : World) : Calls Try.prog 4 #[vW x, vW y] w fun e w' => e = .returned (.bool true) ∧ Tidy w w' := by
  have q1 : (l2 x y).1 = (l2 x y).2 := decide_eq_true ⟨hx, hy⟩
  have q2 : ∀ k, (ls k).1 = (ls k).2 := fun k => eqW_iff.2 rfl
  exact fits_calls (tabY_ok con_ok) (law x y) (okCons (q2 _) (okCons (q2 _) (okCons q1 (okL1 q1)))) (by rfl) (by rfl) w

theorem own : ownKnob Try.prog.godebug = none := by kernel_rfl
theorem cellsA : Try.prog.cellsOf 23 = 4 := by kernel_rfl
theorem cellsE : Try.prog.cellsOf 22 = 1 := by kernel_rfl
set_option maxRecDepth 100000 in
theorem lifted (os : Os) (started : os.Started) (H : Type) (enc : TypeId × Value → H) :
    ReturnsInHanded {} Try.checked os 4 .any (Rows.wideMulsSpec.pre6 enc Try.prog Try.f4 Rows.wideMulsRow.domain false) (Rows.wideMulsSpec.post enc Try.prog Try.f4 false true false false) := by
  refine returnsInHanded_of_change (C := Try.checked) own started (by kernel_rfl) Try.func4
    (ChangeSpec.witness6 (enc := enc) (C := Try.checked) false ⟨#[], #[.agg #[.int .u64 0, .int .u64 0, .int .u64 0, .int .u64 0], .agg #[.int .u64 0, .int .u64 0, .int .u64 0, .int .u64 0]], []⟩ 8 (by kernel_rfl) (by kernel_rfl) (by kernel_rfl) (by kernel_rfl)) ?_
  intro W base args ds gs before hval0 hW hcnd _
  have hval : ∀ (j : Nat) t v, Try.f4.params[j]? = some t → args[j]? = some v → Value.okWide Try.prog W .any base t v := hval0
  have hW' := hW
  obtain ⟨p, q, hA0, hV, rfl, hfz, hnd⟩ := hW
  have hA : DataW.TrodAll enc Try.prog W 0 (fun _ => true) true Try.f4.params.toList args.toList ds p := hA0
  rw [Try.params4] at hA hval
  obtain ⟨v0, v1, d0, d1, p0, p1, rfl, rfl, rfl, h0, h1⟩ := trodAll_two hA
  obtain ⟨rfl, rfl⟩ := trodVars_none hV
  obtain ⟨a0, a1, a2, a3, rfl, rfl, rfl, wa0, wa1, wa2, wa3⟩ := open_w4 Try.underlying23 Try.underlying22 cellsA cellsE (hval 0 23 v0 rfl rfl) h0
  obtain ⟨b0, b1, b2, b3, rfl, rfl, rfl, wb0, wb1, wb2, wb3⟩ := open_w4 Try.underlying23 Try.underlying22 cellsA cellsE (hval 1 23 v1 rfl rfl) h1
  clear hA0 hval0
  simp only [List.append_nil] at hW'
  refine (walk ⟨a0, a1, a2, a3⟩ ⟨b0, b1, b2, b3⟩ ⟨u64_bounds wa0, u64_bounds wa1, u64_bounds wa2, u64_bounds wa3⟩ ⟨u64_bounds wb0, u64_bounds wb1, u64_bounds wb2, u64_bounds wb3⟩ W).mono fun e W' ⟨he, hg⟩ => ?_
  subst he
  exact ⟨_, rfl, post_of_same (pa := []) (pv := []) hW' (fun _ _ _ => trodAll_mk1 (shut_bool Try.underlying4 _))
    (fun sp _ => trodAll_mk2 (shut_w4 Try.underlying23 Try.underlying22 cellsA cellsE wa0 wa1 wa2 wa3) (shut_w4 Try.underlying23 Try.underlying22 cellsA cellsE wb0 wb1 wb2 wb3)) (fun _ _ => rfl) rfl
    (hg.1.frame _) (tidy_frozen hg) (ok_one (by kernel_rfl) rfl (okWide_bool_mk Try.underlying4 _))⟩

theorem proved : Rows.WideMulsSaid :=
  OpenClaim.holds_of_wide 4 Try.f4 rfl rfl rfl rfl rfl rfl rfl ⟨rfl, rfl, rfl, rfl, rfl⟩ rfl rfl rfl rfl rfl (by kernel_rfl) Try.func4 (by kernel_rfl)
    (of_decide_eq_true (by kernel_rfl)) (by unfold Func.isWrapper; first | (rw [if_pos (by decide +kernel)]; kernel_rfl) | (rw [if_neg (by decide +kernel)]; exact ⟨rfl, rfl⟩))
    (fun os started H enc _ => lifted os started H enc)
end Go.Proofs.Ytdahpclbjeeeiaa.wideMuls
