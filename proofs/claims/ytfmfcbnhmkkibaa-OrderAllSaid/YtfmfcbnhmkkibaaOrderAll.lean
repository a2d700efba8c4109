/-
  PROVED HERE: for every input the law tillerlaw10.OrderAll returns true, and each argument reads afterwards as it read before: of any two patterns one is ahead; both ways only the same one; what is ahead of what is ahead of a third one is ahead of that; numbers that are less are ahead. No condition.
-/
import Derived.Test.YtfmfcbnhmkkibaaOrB
import Derived.Test.YtfmfcbnhmkkibaaFlat
import Derived.Test.YtfmfcbnhmkkibaaRows
namespace Go.Proofs.Ytfmfcbnhmkkibaa.orderAll
open Go.KRun Go.Pt Go.ChangeShapes Go.WideShapes Go.ChangeAt Go.RowKit 
set_option linter.unusedVariables false

theorem oa_tt0n (a b c : Int) : Fits (reckon (tabOf Try.prog extY conO5 true) 400 7 [.int .u64 a, .int .u64 b, .int .u64 c] [cmp true, cmp true, cmp true, cmp false, cmp true, cmp true]) (.bool true) [(coV b a == coV a b, true), (coV a b == 2, true), (true, true), (decide (U b ∧ U a), true), (true, true), (decide (U a ∧ U b), true), (tlB b c, false), (decide (U b ∧ U c), true), (a == b, true), (tlB b a, true), (decide (U b ∧ U a), true), (tlB a b, true), (decide (U a ∧ U b), true)] := ⟨by kernel_rfl, by kernel_rfl, by kernel_rfl, by kernel_rfl⟩
theorem oa_tt0g (a b c : Int) : Fits (reckon (tabOf Try.prog extY conO5 true) 400 7 [.int .u64 a, .int .u64 b, .int .u64 c] [cmp true, cmp true, cmp true, cmp false, cmp false, cmp true, cmp true]) (.bool true) [(coV a b != -1, true), (coV a b == IntKind.i64.wrap (0 - coV b a), true), (coV a b == 2, false), (true, true), (decide (U b ∧ U a), true), (true, true), (decide (U a ∧ U b), true), (tlB b c, false), (decide (U b ∧ U c), true), (a == b, true), (tlB b a, true), (decide (U b ∧ U a), true), (tlB a b, true), (decide (U a ∧ U b), true)] := ⟨by kernel_rfl, by kernel_rfl, by kernel_rfl, by kernel_rfl⟩
theorem oa_tt1n (a b c : Int) : Fits (reckon (tabOf Try.prog extY conO5 true) 400 7 [.int .u64 a, .int .u64 b, .int .u64 c] [cmp true, cmp true, cmp true, cmp true, cmp true, cmp true, cmp true]) (.bool true) [(coV b a == coV a b, true), (coV a b == 2, true), (true, true), (decide (U b ∧ U a), true), (true, true), (decide (U a ∧ U b), true), (tlB a c, true), (decide (U a ∧ U c), true), (tlB b c, true), (decide (U b ∧ U c), true), (a == b, true), (tlB b a, true), (decide (U b ∧ U a), true), (tlB a b, true), (decide (U a ∧ U b), true)] := ⟨by kernel_rfl, by kernel_rfl, by kernel_rfl, by kernel_rfl⟩
theorem oa_tt1g (a b c : Int) : Fits (reckon (tabOf Try.prog extY conO5 true) 400 7 [.int .u64 a, .int .u64 b, .int .u64 c] [cmp true, cmp true, cmp true, cmp true, cmp true, cmp false, cmp true, cmp true]) (.bool true) [(coV a b != -1, true), (coV a b == IntKind.i64.wrap (0 - coV b a), true), (coV a b == 2, false), (true, true), (decide (U b ∧ U a), true), (true, true), (decide (U a ∧ U b), true), (tlB a c, true), (decide (U a ∧ U c), true), (tlB b c, true), (decide (U b ∧ U c), true), (a == b, true), (tlB b a, true), (decide (U b ∧ U a), true), (tlB a b, true), (decide (U a ∧ U b), true)] := ⟨by kernel_rfl, by kernel_rfl, by kernel_rfl, by kernel_rfl⟩
theorem oa_tf0n (a b c : Int) : Fits (reckon (tabOf Try.prog extY conO5 true) 400 7 [.int .u64 a, .int .u64 b, .int .u64 c] [cmp true, cmp false, cmp false, cmp false, cmp true, cmp true]) (.bool true) [(coV b a == coV a b, true), (coV a b == 2, true), (true, true), (decide (U b ∧ U a), true), (true, true), (decide (U a ∧ U b), true), (tlB b c, false), (decide (U b ∧ U c), true), (a == b, false), (tlB b a, false), (decide (U b ∧ U a), true), (tlB a b, true), (decide (U a ∧ U b), true)] := ⟨by kernel_rfl, by kernel_rfl, by kernel_rfl, by kernel_rfl⟩
theorem oa_tf0g (a b c : Int) : Fits (reckon (tabOf Try.prog extY conO5 true) 400 7 [.int .u64 a, .int .u64 b, .int .u64 c] [cmp true, cmp false, cmp false, cmp false, cmp false, cmp true, cmp true]) (.bool true) [(coV a b != -1, true), (coV a b == IntKind.i64.wrap (0 - coV b a), true), (coV a b == 2, false), (true, true), (decide (U b ∧ U a), true), (true, true), (decide (U a ∧ U b), true), (tlB b c, false), (decide (U b ∧ U c), true), (a == b, false), (tlB b a, false), (decide (U b ∧ U a), true), (tlB a b, true), (decide (U a ∧ U b), true)] := ⟨by kernel_rfl, by kernel_rfl, by kernel_rfl, by kernel_rfl⟩
theorem oa_tf0l (a b c : Int) : Fits (reckon (tabOf Try.prog extY conO5 true) 400 7 [.int .u64 a, .int .u64 b, .int .u64 c] [cmp true, cmp false, cmp false, cmp false, cmp false, cmp true, cmp false]) (.bool true) [(coV a b != -1, false), (coV a b == IntKind.i64.wrap (0 - coV b a), true), (coV a b == 2, false), (true, true), (decide (U b ∧ U a), true), (true, true), (decide (U a ∧ U b), true), (tlB b c, false), (decide (U b ∧ U c), true), (a == b, false), (tlB b a, false), (decide (U b ∧ U a), true), (tlB a b, true), (decide (U a ∧ U b), true)] := ⟨by kernel_rfl, by kernel_rfl, by kernel_rfl, by kernel_rfl⟩
theorem oa_tf1n (a b c : Int) : Fits (reckon (tabOf Try.prog extY conO5 true) 400 7 [.int .u64 a, .int .u64 b, .int .u64 c] [cmp true, cmp false, cmp false, cmp true, cmp true, cmp true, cmp true]) (.bool true) [(coV b a == coV a b, true), (coV a b == 2, true), (true, true), (decide (U b ∧ U a), true), (true, true), (decide (U a ∧ U b), true), (tlB a c, true), (decide (U a ∧ U c), true), (tlB b c, true), (decide (U b ∧ U c), true), (a == b, false), (tlB b a, false), (decide (U b ∧ U a), true), (tlB a b, true), (decide (U a ∧ U b), true)] := ⟨by kernel_rfl, by kernel_rfl, by kernel_rfl, by kernel_rfl⟩
theorem oa_tf1g (a b c : Int) : Fits (reckon (tabOf Try.prog extY conO5 true) 400 7 [.int .u64 a, .int .u64 b, .int .u64 c] [cmp true, cmp false, cmp false, cmp true, cmp true, cmp false, cmp true, cmp true]) (.bool true) [(coV a b != -1, true), (coV a b == IntKind.i64.wrap (0 - coV b a), true), (coV a b == 2, false), (true, true), (decide (U b ∧ U a), true), (true, true), (decide (U a ∧ U b), true), (tlB a c, true), (decide (U a ∧ U c), true), (tlB b c, true), (decide (U b ∧ U c), true), (a == b, false), (tlB b a, false), (decide (U b ∧ U a), true), (tlB a b, true), (decide (U a ∧ U b), true)] := ⟨by kernel_rfl, by kernel_rfl, by kernel_rfl, by kernel_rfl⟩
theorem oa_tf1l (a b c : Int) : Fits (reckon (tabOf Try.prog extY conO5 true) 400 7 [.int .u64 a, .int .u64 b, .int .u64 c] [cmp true, cmp false, cmp false, cmp true, cmp true, cmp false, cmp true, cmp false]) (.bool true) [(coV a b != -1, false), (coV a b == IntKind.i64.wrap (0 - coV b a), true), (coV a b == 2, false), (true, true), (decide (U b ∧ U a), true), (true, true), (decide (U a ∧ U b), true), (tlB a c, true), (decide (U a ∧ U c), true), (tlB b c, true), (decide (U b ∧ U c), true), (a == b, false), (tlB b a, false), (decide (U b ∧ U a), true), (tlB a b, true), (decide (U a ∧ U b), true)] := ⟨by kernel_rfl, by kernel_rfl, by kernel_rfl, by kernel_rfl⟩
theorem oa_ftn (a b c : Int) : Fits (reckon (tabOf Try.prog extY conO5 true) 400 7 [.int .u64 a, .int .u64 b, .int .u64 c] [cmp false, cmp true, cmp false, cmp true, cmp true]) (.bool true) [(coV b a == coV a b, true), (coV a b == 2, true), (true, true), (decide (U b ∧ U a), true), (true, true), (decide (U a ∧ U b), true), (a == b, false), (tlB b a, true), (decide (U b ∧ U a), true), (tlB a b, false), (decide (U a ∧ U b), true)] := ⟨by kernel_rfl, by kernel_rfl, by kernel_rfl, by kernel_rfl⟩
theorem oa_ftg (a b c : Int) : Fits (reckon (tabOf Try.prog extY conO5 true) 400 7 [.int .u64 a, .int .u64 b, .int .u64 c] [cmp false, cmp true, cmp false, cmp false, cmp true, cmp true]) (.bool true) [(coV a b != -1, true), (coV a b == IntKind.i64.wrap (0 - coV b a), true), (coV a b == 2, false), (true, true), (decide (U b ∧ U a), true), (true, true), (decide (U a ∧ U b), true), (a == b, false), (tlB b a, true), (decide (U b ∧ U a), true), (tlB a b, false), (decide (U a ∧ U b), true)] := ⟨by kernel_rfl, by kernel_rfl, by kernel_rfl, by kernel_rfl⟩
theorem co_w {a b : Int} (h : ¬ (3 < cl a ∨ 3 < cl b)) : coV a b = IntKind.i64.wrap (0 - coV b a) := by
  have h1 := co_comm h
  have h2 := coV_bd b a
  rw [wrapI' ⟨by omega, by omega⟩]
  omega
theorem walk (a b c : Int) (ha : U a) (hb : U b) (hc : U c) (w : World) : Calls Try.prog 7 #[.int .u64 a, .int .u64 b, .int .u64 c] w fun e w' => e = .returned (.bool true) ∧ Tidy w w' := by
  have hv : ([.int .u64 a, .int .u64 b, .int .u64 c].all (lt 0)) = true := rfl
  have T := tabY_ok conO5_ok
  have hi := plc_inj ha hb
  by_cases pab : plc a ≤ plc b
  · have xab : tlB a b = true := decide_eq_true pab
    by_cases pba : plc b ≤ plc a
    · have xba : tlB b a = true := decide_eq_true pba
      have he : a = b := hi.1 (by omega)
      by_cases pbc : plc b ≤ plc c
      · have xbc : tlB b c = true := decide_eq_true pbc
        have xac : tlB a c = true := decide_eq_true (Int.le_trans pab pbc)
        by_cases hn : 3 < cl a ∨ 3 < cl b
        · exact fits_calls T (oa_tt1n a b c) (okCons (beq_t (by rw [coV_nn.2 hn, coV_nn.2 hn.symm])) (okCons (beq_t (coV_nn.2 hn)) (okCons rfl (okCons (decide_eq_true ⟨hb, ha⟩) (okCons rfl (okCons (decide_eq_true ⟨ha, hb⟩) (okCons xac (okCons (decide_eq_true ⟨ha, hc⟩) (okCons xbc (okCons (decide_eq_true ⟨hb, hc⟩) (okCons (beq_t he) (okCons xba (okCons (decide_eq_true ⟨hb, ha⟩) (okCons xab (okL1 (decide_eq_true ⟨ha, hb⟩)))))))))))))))) hv (by rfl) w
        have cc := co_w hn
        have hl : coV a b ≠ -1 := fun h => by
          have := (co_num ha hb hn).1 (by omega)
          omega
        exact fits_calls T (oa_tt1g a b c) (okCons (bne_t hl) (okCons (beq_t cc) (okCons (beq_f fun h => hn (coV_nn.1 h)) (okCons rfl (okCons (decide_eq_true ⟨hb, ha⟩) (okCons rfl (okCons (decide_eq_true ⟨ha, hb⟩) (okCons xac (okCons (decide_eq_true ⟨ha, hc⟩) (okCons xbc (okCons (decide_eq_true ⟨hb, hc⟩) (okCons (beq_t he) (okCons xba (okCons (decide_eq_true ⟨hb, ha⟩) (okCons xab (okL1 (decide_eq_true ⟨ha, hb⟩))))))))))))))))) hv (by rfl) w
      · have xbc : tlB b c = false := decide_eq_false pbc
        by_cases hn : 3 < cl a ∨ 3 < cl b
        · exact fits_calls T (oa_tt0n a b c) (okCons (beq_t (by rw [coV_nn.2 hn, coV_nn.2 hn.symm])) (okCons (beq_t (coV_nn.2 hn)) (okCons rfl (okCons (decide_eq_true ⟨hb, ha⟩) (okCons rfl (okCons (decide_eq_true ⟨ha, hb⟩) (okCons xbc (okCons (decide_eq_true ⟨hb, hc⟩) (okCons (beq_t he) (okCons xba (okCons (decide_eq_true ⟨hb, ha⟩) (okCons xab (okL1 (decide_eq_true ⟨ha, hb⟩)))))))))))))) hv (by rfl) w
        have cc := co_w hn
        have hl : coV a b ≠ -1 := fun h => by
          have := (co_num ha hb hn).1 (by omega)
          omega
        exact fits_calls T (oa_tt0g a b c) (okCons (bne_t hl) (okCons (beq_t cc) (okCons (beq_f fun h => hn (coV_nn.1 h)) (okCons rfl (okCons (decide_eq_true ⟨hb, ha⟩) (okCons rfl (okCons (decide_eq_true ⟨ha, hb⟩) (okCons xbc (okCons (decide_eq_true ⟨hb, hc⟩) (okCons (beq_t he) (okCons xba (okCons (decide_eq_true ⟨hb, ha⟩) (okCons xab (okL1 (decide_eq_true ⟨ha, hb⟩))))))))))))))) hv (by rfl) w
    · have xba : tlB b a = false := decide_eq_false pba
      have he : a ≠ b := fun h => pba (by rw [h]; omega)
      by_cases pbc : plc b ≤ plc c
      · have xbc : tlB b c = true := decide_eq_true pbc
        have xac : tlB a c = true := decide_eq_true (Int.le_trans pab pbc)
        by_cases hn : 3 < cl a ∨ 3 < cl b
        · exact fits_calls T (oa_tf1n a b c) (okCons (beq_t (by rw [coV_nn.2 hn, coV_nn.2 hn.symm])) (okCons (beq_t (coV_nn.2 hn)) (okCons rfl (okCons (decide_eq_true ⟨hb, ha⟩) (okCons rfl (okCons (decide_eq_true ⟨ha, hb⟩) (okCons xac (okCons (decide_eq_true ⟨ha, hc⟩) (okCons xbc (okCons (decide_eq_true ⟨hb, hc⟩) (okCons (beq_f he) (okCons xba (okCons (decide_eq_true ⟨hb, ha⟩) (okCons xab (okL1 (decide_eq_true ⟨ha, hb⟩)))))))))))))))) hv (by rfl) w
        have cc := co_w hn
        by_cases hl : coV a b = -1
        · exact fits_calls T (oa_tf1l a b c) (okCons (bne_f hl) (okCons (beq_t cc) (okCons (beq_f fun h => hn (coV_nn.1 h)) (okCons rfl (okCons (decide_eq_true ⟨hb, ha⟩) (okCons rfl (okCons (decide_eq_true ⟨ha, hb⟩) (okCons xac (okCons (decide_eq_true ⟨ha, hc⟩) (okCons xbc (okCons (decide_eq_true ⟨hb, hc⟩) (okCons (beq_f he) (okCons xba (okCons (decide_eq_true ⟨hb, ha⟩) (okCons xab (okL1 (decide_eq_true ⟨ha, hb⟩))))))))))))))))) hv (by rfl) w
        · exact fits_calls T (oa_tf1g a b c) (okCons (bne_t hl) (okCons (beq_t cc) (okCons (beq_f fun h => hn (coV_nn.1 h)) (okCons rfl (okCons (decide_eq_true ⟨hb, ha⟩) (okCons rfl (okCons (decide_eq_true ⟨ha, hb⟩) (okCons xac (okCons (decide_eq_true ⟨ha, hc⟩) (okCons xbc (okCons (decide_eq_true ⟨hb, hc⟩) (okCons (beq_f he) (okCons xba (okCons (decide_eq_true ⟨hb, ha⟩) (okCons xab (okL1 (decide_eq_true ⟨ha, hb⟩))))))))))))))))) hv (by rfl) w
      · have xbc : tlB b c = false := decide_eq_false pbc
        by_cases hn : 3 < cl a ∨ 3 < cl b
        · exact fits_calls T (oa_tf0n a b c) (okCons (beq_t (by rw [coV_nn.2 hn, coV_nn.2 hn.symm])) (okCons (beq_t (coV_nn.2 hn)) (okCons rfl (okCons (decide_eq_true ⟨hb, ha⟩) (okCons rfl (okCons (decide_eq_true ⟨ha, hb⟩) (okCons xbc (okCons (decide_eq_true ⟨hb, hc⟩) (okCons (beq_f he) (okCons xba (okCons (decide_eq_true ⟨hb, ha⟩) (okCons xab (okL1 (decide_eq_true ⟨ha, hb⟩)))))))))))))) hv (by rfl) w
        have cc := co_w hn
        by_cases hl : coV a b = -1
        · exact fits_calls T (oa_tf0l a b c) (okCons (bne_f hl) (okCons (beq_t cc) (okCons (beq_f fun h => hn (coV_nn.1 h)) (okCons rfl (okCons (decide_eq_true ⟨hb, ha⟩) (okCons rfl (okCons (decide_eq_true ⟨ha, hb⟩) (okCons xbc (okCons (decide_eq_true ⟨hb, hc⟩) (okCons (beq_f he) (okCons xba (okCons (decide_eq_true ⟨hb, ha⟩) (okCons xab (okL1 (decide_eq_true ⟨ha, hb⟩))))))))))))))) hv (by rfl) w
        · exact fits_calls T (oa_tf0g a b c) (okCons (bne_t hl) (okCons (beq_t cc) (okCons (beq_f fun h => hn (coV_nn.1 h)) (okCons rfl (okCons (decide_eq_true ⟨hb, ha⟩) (okCons rfl (okCons (decide_eq_true ⟨ha, hb⟩) (okCons xbc (okCons (decide_eq_true ⟨hb, hc⟩) (okCons (beq_f he) (okCons xba (okCons (decide_eq_true ⟨hb, ha⟩) (okCons xab (okL1 (decide_eq_true ⟨ha, hb⟩))))))))))))))) hv (by rfl) w
  · have xab : tlB a b = false := decide_eq_false pab
    have xba : tlB b a = true := decide_eq_true (by omega)
    have he : a ≠ b := fun h => pab (by rw [h]; omega)
    by_cases hn : 3 < cl a ∨ 3 < cl b
    · exact fits_calls T (oa_ftn a b c) (okCons (beq_t (by rw [coV_nn.2 hn, coV_nn.2 hn.symm])) (okCons (beq_t (coV_nn.2 hn)) (okCons rfl (okCons (decide_eq_true ⟨hb, ha⟩) (okCons rfl (okCons (decide_eq_true ⟨ha, hb⟩) (okCons (beq_f he) (okCons xba (okCons (decide_eq_true ⟨hb, ha⟩) (okCons xab (okL1 (decide_eq_true ⟨ha, hb⟩)))))))))))) hv (by rfl) w
    have cc := co_w hn
    have hl : coV a b ≠ -1 := fun h => by
      have := (co_num ha hb hn).1 (by omega)
      omega
    exact fits_calls T (oa_ftg a b c) (okCons (bne_t hl) (okCons (beq_t cc) (okCons (beq_f fun h => hn (coV_nn.1 h)) (okCons rfl (okCons (decide_eq_true ⟨hb, ha⟩) (okCons rfl (okCons (decide_eq_true ⟨ha, hb⟩) (okCons (beq_f he) (okCons xba (okCons (decide_eq_true ⟨hb, ha⟩) (okCons xab (okL1 (decide_eq_true ⟨ha, hb⟩))))))))))))) hv (by rfl) w
theorem own : ownKnob Try.prog.godebug = none := by kernel_rfl
set_option maxRecDepth 100000 in
theorem lifted (os : Os) (started : os.Started) (H : Type) (enc : TypeId × Value → H) :
    ReturnsInHanded {} Try.checked os 7 .any (Rows.orderAllSpec.pre6 enc Try.prog Try.f7 Rows.orderAllRow.domain false) (Rows.orderAllSpec.post enc Try.prog Try.f7 false true false false) := by
  refine returnsInHanded_of_change (C := Try.checked) own started (by kernel_rfl) Try.func7
    (ChangeSpec.witness6 (enc := enc) (C := Try.checked) false ⟨#[], #[.int .u64 0, .int .u64 0, .int .u64 0], []⟩ 8 (by kernel_rfl) (by kernel_rfl) (by kernel_rfl) (by kernel_rfl)) ?_
  intro W base args ds gs before hval0 hW hcnd _
  have hval : ∀ (j : Nat) t v, Try.f7.params[j]? = some t → args[j]? = some v → Value.okWide Try.prog W .any base t v := hval0
  have hW' := hW
  obtain ⟨p, q, hA0, hV, rfl, hfz, hnd⟩ := hW
  have hA : DataW.TrodAll enc Try.prog W 0 (fun _ => true) true Try.f7.params.toList args.toList ds p := hA0
  rw [Try.params7] at hA hval
  obtain ⟨v0, v1, v2, d0, d1, d2, p0, p1, p2, rfl, rfl, rfl, h0, h1, h2⟩ := trodAll_three hA
  obtain ⟨rfl, rfl⟩ := trodVars_none hV
  obtain ⟨x0, rfl, rfl, rfl, w0⟩ := open_int Try.underlying22 (hval 0 22 v0 rfl rfl) h0
  obtain ⟨x1, rfl, rfl, rfl, w1⟩ := open_int Try.underlying22 (hval 1 22 v1 rfl rfl) h1
  obtain ⟨x2, rfl, rfl, rfl, w2⟩ := open_int Try.underlying22 (hval 2 22 v2 rfl rfl) h2
  clear hA0 hval0
  simp only [List.append_nil] at hW'
  refine (walk x0 x1 x2 (u64_bounds w0) (u64_bounds w1) (u64_bounds w2) W).mono fun e W' ⟨he, hg⟩ => ?_
  subst he
  exact ⟨_, rfl, post_of_same (pa := []) (pv := []) hW' (fun _ _ _ => trodAll_mk1 (shut_bool Try.underlying4 _))
    (fun sp _ => trodAll_mk3 (shut_int Try.underlying22 w0) (shut_int Try.underlying22 w1) (shut_int Try.underlying22 w2)) (fun _ _ => rfl) rfl
    (hg.1.frame _) (tidy_frozen hg) (ok_one (by kernel_rfl) rfl (okWide_bool_mk Try.underlying4 _))⟩

theorem proved : Rows.OrderAllSaid :=
  OpenClaim.holds_of_wide 7 Try.f7 rfl rfl rfl rfl rfl rfl rfl ⟨rfl, rfl, rfl, rfl, rfl⟩ rfl rfl rfl rfl rfl (by kernel_rfl) Try.func7 (by kernel_rfl)
    (of_decide_eq_true (by kernel_rfl)) (by unfold Func.isWrapper; first | (rw [if_pos (by decide +kernel)]; kernel_rfl) | (rw [if_neg (by decide +kernel)]; exact ⟨rfl, rfl⟩))
    (fun os started H enc _ => lifted os started H enc)
end Go.Proofs.Ytfmfcbnhmkkibaa.orderAll
