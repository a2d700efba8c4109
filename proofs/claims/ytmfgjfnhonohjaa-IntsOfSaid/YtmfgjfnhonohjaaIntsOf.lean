/-
  PROVED HERE: for every input the law tillerlaw11.IntsOf returns true, and each argument reads afterwards as it read before: any whole number as a pattern, by any mode, and the flags, is the document's. No condition.
-/
import Derived.Test.YtmfgjfnhonohjaaG34
import Derived.Test.YtmfgjfnhonohjaaG35
import Derived.Test.YtmfgjfnhonohjaaRows
namespace Go.Proofs.Ytmfgjfnhonohjaa.intsOf
open Go.KRun Go.Pt Go.ChangeShapes Go.WideShapes Go.ChangeAt Go.RowKit Go.Wd Go.Rn
set_option linter.unusedVariables false

theorem io_t (n k m : Int) : Fits (reckon (tabOf Try.prog extY conI4 true) 400 3 [.int .i64 n, .int .u64 k, .int .i64 m] [cmp true, cmp true, cmp true, cmp true, cmp true, cmp true]) (.bool true) [(IntKind.i64.wrap (opF m k) == rnF m false k.toNat 0, true), (opP m k == sS false (rnP m false k.toNat 0), true), (IntKind.i64.wrap (oiF m n) == rnF m true (IntKind.u64.wrap (0 - IntKind.u64.wrap n)).toNat 0, true), (oiP m n == sS true (rnP m true (IntKind.u64.wrap (0 - IntKind.u64.wrap n)).toNat 0), true), lU k, lU k, (decide (U (IntKind.u64.wrap (0 - IntKind.u64.wrap n))), true), (decide (n < 0), true), (decide (n < 0), true), (decide (Go.Pt.I n), true)] := ⟨by kernel_rfl, by kernel_rfl, by kernel_rfl, by kernel_rfl⟩
theorem io_f (n k m : Int) : Fits (reckon (tabOf Try.prog extY conI4 true) 400 3 [.int .i64 n, .int .u64 k, .int .i64 m] [cmp false, cmp false, cmp true, cmp true, cmp true, cmp true]) (.bool true) [(IntKind.i64.wrap (opF m k) == rnF m false k.toNat 0, true), (opP m k == sS false (rnP m false k.toNat 0), true), (IntKind.i64.wrap (oiF m n) == rnF m false (IntKind.u64.wrap n).toNat 0, true), (oiP m n == sS false (rnP m false (IntKind.u64.wrap n).toNat 0), true), lU k, lU k, (decide (U (IntKind.u64.wrap n)), true), (decide (n < 0), false), (decide (n < 0), false), (decide (Go.Pt.I n), true)] := ⟨by kernel_rfl, by kernel_rfl, by kernel_rfl, by kernel_rfl⟩
theorem walk (n k m : Int) (hn : Go.Pt.I n) (hk : U k) (w : World) : Calls Try.prog 3 #[.int .i64 n, .int .u64 k, .int .i64 m] w fun e w' => e = .returned (.bool true) ∧ Tidy w w' := by
  have hv : ([.int .i64 n, .int .u64 k, .int .i64 m].all (lt 0)) = true := rfl
  have T := tabY_ok conI4_ok
  have h0 := hn.1
  have h1 := hn.2
  have f1 := oiF_bd m n
  have f2 := opF_bd m k
  by_cases h : n < 0
  · skip
    have ez : IntKind.u64.wrap (0 - IntKind.u64.wrap n) = (n.natAbs : Nat) := by rw [wrapU, wrapU]; omega
    have en : (IntKind.u64.wrap (0 - IntKind.u64.wrap n)).toNat = n.natAbs := by rw [ez]; rfl
    have hd : decide (n < 0) = true := decide_eq_true h
    have eF : IntKind.i64.wrap (oiF m n) = rnF m true (IntKind.u64.wrap (0 - IntKind.u64.wrap n)).toNat 0 := by
      rw [wrapI' ⟨by omega, by omega⟩, en]
      unfold oiF
      rw [hd]
    have eP : oiP m n = sS true (rnP m true (IntKind.u64.wrap (0 - IntKind.u64.wrap n)).toNat 0) := by
      rw [en]
      unfold oiP
      rw [hd]
    exact fits_calls T (io_t n k m) (okCons (beq_t (wrapI' ⟨by omega, by omega⟩)) (okCons (beq_t rfl) (okCons (beq_t eF) (okCons (beq_t eP) (okCons (decide_eq_true hk) (okCons (decide_eq_true hk) (okCons (decide_eq_true (by rw [ez]; exact ⟨by omega, by omega⟩)) (okCons (decide_eq_true h) (okCons (decide_eq_true h) (okL1 (decide_eq_true hn))))))))))) hv (by rfl) w
  · skip
    have ez : IntKind.u64.wrap n = (n.natAbs : Nat) := by rw [wrapU]; omega
    have en : (IntKind.u64.wrap n).toNat = n.natAbs := by rw [ez]; rfl
    have hd : decide (n < 0) = false := decide_eq_false h
    have eF : IntKind.i64.wrap (oiF m n) = rnF m false (IntKind.u64.wrap n).toNat 0 := by
      rw [wrapI' ⟨by omega, by omega⟩, en]
      unfold oiF
      rw [hd]
    have eP : oiP m n = sS false (rnP m false (IntKind.u64.wrap n).toNat 0) := by
      rw [en]
      unfold oiP
      rw [hd]
    exact fits_calls T (io_f n k m) (okCons (beq_t (wrapI' ⟨by omega, by omega⟩)) (okCons (beq_t rfl) (okCons (beq_t eF) (okCons (beq_t eP) (okCons (decide_eq_true hk) (okCons (decide_eq_true hk) (okCons (decide_eq_true (by rw [ez]; exact ⟨by omega, by omega⟩)) (okCons (decide_eq_false h) (okCons (decide_eq_false h) (okL1 (decide_eq_true hn))))))))))) hv (by rfl) w
theorem own : ownKnob Try.prog.godebug = none := by kernel_rfl
set_option maxRecDepth 100000 in
theorem lifted (os : Os) (started : os.Started) (H : Type) (enc : TypeId × Value → H) :
    ReturnsInHanded {} Try.checked os 3 .any (Rows.intsOfSpec.pre6 enc Try.prog Try.f3 Rows.intsOfRow.domain false) (Rows.intsOfSpec.post enc Try.prog Try.f3 false true false false) := by
  refine returnsInHanded_of_change (C := Try.checked) own started (by kernel_rfl) Try.func3
    (ChangeSpec.witness6 (enc := enc) (C := Try.checked) false ⟨#[], #[.int .i64 0, .int .u64 0, .int .i64 0], []⟩ 8 (by kernel_rfl) (by kernel_rfl) (by kernel_rfl) (by kernel_rfl)) ?_
  intro W base args ds gs before hval0 hW hcnd _
  have hval : ∀ (j : Nat) t v, Try.f3.params[j]? = some t → args[j]? = some v → Value.okWide Try.prog W .any base t v := hval0
  have hW' := hW
  obtain ⟨p, q, hA0, hV, rfl, hfz, hnd⟩ := hW
  have hA : DataW.TrodAll enc Try.prog W 0 (fun _ => true) true Try.f3.params.toList args.toList ds p := hA0
  rw [Try.params3] at hA hval
  obtain ⟨v0, v1, v2, d0, d1, d2, p0, p1, p2, rfl, rfl, rfl, h0, h1, h2⟩ := trodAll_three hA
  obtain ⟨rfl, rfl⟩ := trodVars_none hV
  obtain ⟨x0, rfl, rfl, rfl, w0⟩ := open_int Try.underlying2 (hval 0 2 v0 rfl rfl) h0
  obtain ⟨x1, rfl, rfl, rfl, w1⟩ := open_int Try.underlying22 (hval 1 22 v1 rfl rfl) h1
  obtain ⟨x2, rfl, rfl, rfl, w2⟩ := open_int Try.underlying3 (hval 2 3 v2 rfl rfl) h2
  clear hA0 hval0
  simp only [List.append_nil] at hW'
  refine (walk x0 x1 x2 (i64_bounds w0) (u64_bounds w1) W).mono fun e W' ⟨he, hg⟩ => ?_
  subst he
  exact ⟨_, rfl, post_of_same (pa := []) (pv := []) hW' (fun _ _ _ => trodAll_mk1 (shut_bool Try.underlying4 _))
    (fun sp _ => trodAll_mk3 (shut_int Try.underlying2 w0) (shut_int Try.underlying22 w1) (shut_int Try.underlying3 w2)) (fun _ _ => rfl) rfl
    (hg.1.frame _) (tidy_frozen hg) (ok_one (by kernel_rfl) rfl (okWide_bool_mk Try.underlying4 _))⟩

theorem proved : Rows.IntsOfSaid :=
  OpenClaim.holds_of_wide 3 Try.f3 rfl rfl rfl rfl rfl rfl rfl ⟨rfl, rfl, rfl, rfl, rfl⟩ rfl rfl rfl rfl rfl (by kernel_rfl) Try.func3 (by kernel_rfl)
    (of_decide_eq_true (by kernel_rfl)) (by unfold Func.isWrapper; first | (rw [if_pos (by decide +kernel)]; kernel_rfl) | (rw [if_neg (by decide +kernel)]; exact ⟨rfl, rfl⟩))
    (fun os started H enc _ => lifted os started H enc)
end Go.Proofs.Ytmfgjfnhonohjaa.intsOf
