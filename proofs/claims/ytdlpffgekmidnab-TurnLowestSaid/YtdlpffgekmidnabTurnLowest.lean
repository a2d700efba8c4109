/-
  PROVED HERE: for every input the law tillerlaw16.TurnLowest returns true, and each argument reads afterwards as it read before: as many parts more of as many times more parts are the same point; whole turns more change nothing. No condition.
-/
import Derived.Test.YtdlpffgekmidnabG12
import Derived.Test.YtdlpffgekmidnabRows
namespace Go.Proofs.Ytdlpffgekmidnab.turnLowest
open Go.KRun Go.Pt Go.ChangeShapes Go.WideShapes Go.ChangeAt Go.RowKit Go.Wd
set_option linter.unusedVariables false
set_option maxRecDepth 100000
def nI (n : Int) : Int := IntKind.i64.wrap (1 + IntKind.i64.wrap ((IntKind.u64.wrap n).tmod 4096))
theorem tl_fits (k n b : Int) : Fits (reckon (tabOf Try.prog extY conTL true) 600 4 [.int .i64 k, .int .i64 n, .int .i64 b] [cmp false, cmp false, cmp false, cmp false, cmp false, cmp false, cmp false, sam true, sam true]) (.bool true) [((coI ((jI k (nI n)) % (nI n)) (nI n)) == (coI ((w64 ((jI k (nI n)) + w64 ((nI n) * w64 (jI (nI b) 7 - 3)))) % (nI n)) (nI n)) && ((siI ((jI k (nI n)) % (nI n)) (nI n)) == (siI ((w64 ((jI k (nI n)) + w64 ((nI n) * w64 (jI (nI b) 7 - 3)))) % (nI n)) (nI n)) && true), true), ((coI ((jI k (nI n)) % (nI n)) (nI n)) == (coI ((w64 ((jI k (nI n)) * (nI b))) % (w64 ((nI n) * (nI b)))) (w64 ((nI n) * (nI b)))) && ((siI ((jI k (nI n)) % (nI n)) (nI n)) == (siI ((w64 ((jI k (nI n)) * (nI b))) % (w64 ((nI n) * (nI b)))) (w64 ((nI n) * (nI b)))) && true), true), bL (nI n) false, (decide ((7 : Int) = 0), false), bL (w64 ((nI n) * (nI b))) false, bL (nI n) false, (decide ((nI n) = 0), false), (decide ((4096 : Int) = 0), false), (decide ((4096 : Int) = 0), false)] := ⟨by kernel_rfl, by kernel_rfl, by kernel_rfl, by kernel_rfl⟩
theorem both_t {a b c d : Int} (h : b = a ∧ d = c) : (a == b && (c == d && true)) = true := by
  obtain ⟨rfl, rfl⟩ := h
  simp
theorem walk (k n b : Int) (w : World) : Calls Try.prog 4 #[.int .i64 k, .int .i64 n, .int .i64 b] w fun e w' => e = .returned (.bool true) ∧ Tidy w w' := by
  have hv : ([.int .i64 k, .int .i64 n, .int .i64 b].all (lt 0)) = true := rfl
  have hm : 1 ≤ nI n ∧ nI n ≤ 4096 := m_bd (by decide) n
  have hc : 1 ≤ nI b ∧ nI b ≤ 4096 := m_bd (by decide) b
  have F := tl_fits k n b
  generalize nI n = M at *
  generalize nI b = C at *
  have hj : -M < jI k M ∧ jI k M < M := j_bd (by omega)
  have ht : -7 < jI C 7 ∧ jI C 7 < 7 := j_bd (by omega)
  generalize jI k M = J at *
  generalize jI C 7 = T at *
  have p1 : -16777216 ≤ J * C ∧ J * C ≤ 16777216 := by
    have a1 : J * C ≤ 4096 * 4096 := Int.le_trans (Int.mul_le_mul_of_nonneg_right (show J ≤ 4096 by omega) (by omega)) (Int.mul_le_mul_of_nonneg_left hc.2 (by omega))
    have a2 : -J * C ≤ 4096 * 4096 := Int.le_trans (Int.mul_le_mul_of_nonneg_right (show -J ≤ 4096 by omega) (by omega)) (Int.mul_le_mul_of_nonneg_left hc.2 (by omega))
    rw [Int.neg_mul] at a2
    omega
  have p2 : 1 ≤ M * C ∧ M * C ≤ 16777216 := by
    have a1 : M * C ≤ 4096 * 4096 := Int.le_trans (Int.mul_le_mul_of_nonneg_right hm.2 (by omega)) (Int.mul_le_mul_of_nonneg_left hc.2 (by omega))
    have a2 := Int.mul_le_mul_of_nonneg_left hc.1 (show 0 ≤ M by omega)
    omega
  have p3 : -4194304 ≤ M * (T - 3) ∧ M * (T - 3) ≤ 4194304 := by
    have a1 := Int.mul_le_mul_of_nonneg_left (show T - 3 ≤ 10 by omega) (show 0 ≤ M by omega)
    have a2 := Int.mul_le_mul_of_nonneg_left (show -10 ≤ T - 3 by omega) (show 0 ≤ M by omega)
    omega
  rw [w64_is (z := J * C) (by omega), w64_is (z := M * C) (by omega), w64_is (z := T - 3) (by omega), w64_is (z := M * (T - 3)) (by omega), w64_is (z := J + M * (T - 3)) (by omega)] at F
  have m0 : decide (M = 0) = false := decide_eq_false (by omega)
  have g1 : (bL M false).1 = (bL M false).2 := decide_eq_false (by unfold badP; omega)
  have g2 : (bL (M * C) false).1 = (bL (M * C) false).2 := decide_eq_false (by unfold badP; omega)
  have e1 := both_t (same_times (k := J) (n := M) (c := C) hm.1 hc.1)
  have er : (J + M * (T - 3)) % M = J % M := Int.add_mul_emod_self_left ..
  have e2 : (coI (J % M) M == coI ((J + M * (T - 3)) % M) M && (siI (J % M) M == siI ((J + M * (T - 3)) % M) M && true)) = true := both_t (by rw [er]; exact ⟨rfl, rfl⟩)
  exact fits_calls (tabY_ok conTL_ok) F (okPC e2 (okPC e1 (okPC g1 (okPC (by decide) (okPC g2 (okPC g1 (okPC m0 (okPC (by decide) (okP1 (by decide)))))))))) hv (by rfl) w
theorem own : ownKnob Try.prog.godebug = none := by kernel_rfl
set_option maxRecDepth 100000 in
theorem lifted (os : Os) (started : os.Started) (H : Type) (enc : TypeId × Value → H) :
    ReturnsInHanded {} Try.checked os 4 .any (Rows.turnLowestSpec.pre6 enc Try.prog Try.f4 Rows.turnLowestRow.domain false) (Rows.turnLowestSpec.post enc Try.prog Try.f4 false true false false) := by
  refine returnsInHanded_of_change (C := Try.checked) own started (by kernel_rfl) Try.func4
    (ChangeSpec.witness6 (enc := enc) (C := Try.checked) false ⟨#[], #[.int .i64 0, .int .i64 0, .int .i64 0], []⟩ 8 (by kernel_rfl) (by kernel_rfl) (by kernel_rfl) (by kernel_rfl)) ?_
  intro W base args ds gs before hval0 hW hcnd _
  have hval : ∀ (j : Nat) t v, Try.f4.params[j]? = some t → args[j]? = some v → Value.okWide Try.prog W .any base t v := hval0
  have hW' := hW
  obtain ⟨p, q, hA0, hV, rfl, hfz, hnd⟩ := hW
  have hA : DataW.TrodAll enc Try.prog W 0 (fun _ => true) true Try.f4.params.toList args.toList ds p := hA0
  rw [Try.params4] at hA hval
  obtain ⟨v0, v1, v2, d0, d1, d2, p0, p1, p2, rfl, rfl, rfl, h0, h1, h2⟩ := trodAll_three hA
  obtain ⟨rfl, rfl⟩ := trodVars_none hV
  obtain ⟨x0, rfl, rfl, rfl, w0⟩ := open_int Try.underlying3 (hval 0 3 v0 rfl rfl) h0
  obtain ⟨x1, rfl, rfl, rfl, w1⟩ := open_int Try.underlying3 (hval 1 3 v1 rfl rfl) h1
  obtain ⟨x2, rfl, rfl, rfl, w2⟩ := open_int Try.underlying3 (hval 2 3 v2 rfl rfl) h2
  clear hA0 hval0
  simp only [List.append_nil] at hW'
  refine (walk x0 x1 x2 W).mono fun e W' ⟨he, hg⟩ => ?_
  subst he
  exact ⟨_, rfl, post_of_same (pa := []) (pv := []) hW' (fun _ _ _ => trodAll_mk1 (shut_bool Try.underlying4 _))
    (fun sp _ => trodAll_mk3 (shut_int Try.underlying3 w0) (shut_int Try.underlying3 w1) (shut_int Try.underlying3 w2)) (fun _ _ => rfl) rfl
    (hg.1.frame _) (tidy_frozen hg) (ok_one (by kernel_rfl) rfl (okWide_bool_mk Try.underlying4 _))⟩
theorem proved : Rows.TurnLowestSaid :=
  OpenClaim.holds_of_wide 4 Try.f4 rfl rfl rfl rfl rfl rfl rfl ⟨rfl, rfl, rfl, rfl, rfl⟩ rfl rfl rfl rfl rfl (by kernel_rfl) Try.func4 (by kernel_rfl)
    (of_decide_eq_true (by kernel_rfl)) (by unfold Func.isWrapper; first | (rw [if_pos (by decide +kernel)]; kernel_rfl) | (rw [if_neg (by decide +kernel)]; exact ⟨rfl, rfl⟩))
    (fun os started H enc _ => lifted os started H enc)
end Go.Proofs.Ytdlpffgekmidnab.turnLowest
