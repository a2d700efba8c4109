/-
  tillerlaw02.NatOf, as a call: true.
-/
import Derived.Test.YtcnmfjhefioldabDoorNatB
namespace Go.Proofs.YtcnmfjhefioldabDoor
open Go.KRun Go.Nt
set_option maxRecDepth 100000

theorem of_loop (N : Int) (hN : Small N) (a b c d z : Value) (h : Hp) (g : Nat → Value) (s : List Dec) :
    Runs (tabH Tryd.prog extY conO hcO) (.block 0 (.loop (oL Tryd.f4))) (oF N a b c d z (i6' 0) (.int .u64 N) ++ tl 74 g, h, s)
      fun e' y => match e' with
        | none => ∃ (x : Value) (g : Nat → Value), y.1 = oF N a b c d z (i6' (bitLen N.toNat : Nat)) x ++ tl 74 g ∧ y.2.1 = h
        | some _ => False := by
  have h0 := hN.n0
  have h1 := hN.n1
  have hb : bitLen N.toNat ≤ 64 := by
    by_cases hz : N.toNat = 0
    · rw [hz]; decide
    · have := (bitLen_spec N.toNat).2 hz
      by_cases h64 : bitLen N.toNat ≤ 64
      · exact h64
      · exfalso
        have e : (2 : Nat) ^ 64 ≤ 2 ^ (bitLen N.toNat - 1) := Nat.pow_le_pow_right (by omega) (by omega)
        have e2 : (2 : Nat) ^ 64 = 18446744073709551616 := rfl
        omega
  refine (Runs.forLoop (R := fun _ => False) (P := fun y => ∃ (x : Value) (g : Nat → Value), y.1 = oF N a b c d z (i6' (bitLen N.toNat : Nat)) x ++ tl 74 g ∧ y.2.1 = h)
    (fun r y => ∃ (k x : Nat) (g : Nat → Value), bitLen x = r ∧ k + bitLen x = bitLen N.toNat ∧ x < 18446744073709551616 ∧ y.1 = oF N a b c d z (i6' k) (.int .u64 x) ++ tl 74 g ∧ y.2.1 = h)
    ?_ (n := bitLen N.toNat) ⟨0, N.toNat, g, rfl, by omega, by omega, by
      show oF N a b c d z (i6' 0) (.int .u64 N) ++ tl 74 g = oF N a b c d z (i6' 0) (.int .u64 ((N.toNat : Nat) : Int)) ++ tl 74 g
      rw [Int.toNat_of_nonneg h0], rfl⟩).mono fun e' y he => ?_
  · rintro r ⟨t, h', s'⟩ ⟨k, x, g, hr, hk, hx, ht, hh⟩
    simp only at ht hh
    subst ht hh
    by_cases hz : x = 0
    · subst hz
      have l1 : decide (((0 : Nat) : Int) > 0) = false := rfl
      refine (goesT_runs (tabH_ok conO_ok hcO_ok) (of_out N a b c d z _ ((0 : Nat) : Int) _ g) (okOne l1)).mono fun e' y he => ?_
      obtain ⟨rfl, ⟨g1, e2⟩, e3⟩ := he
      refine ⟨rfl, .int .u64 ((0 : Nat) : Int), g1, ?_, e3⟩
      have hk' : k = bitLen N.toNat := by
        have : bitLen 0 = 0 := rfl
        omega
      rw [e2, hk']
    · have hh := bitLen_half (x := x) (by omega)
      have l1 : decide (((x : Nat) : Int) > 0) = true := decide_eq_true (by omega)
      refine (goesT_runs (tabH_ok conO_ok hcO_ok) (of_go N a b c d z k x _ g) (okOne l1)).mono fun e' y he => ?_
      obtain ⟨rfl, ⟨g1, e2⟩, e3⟩ := he
      have e4 : IntKind.u64.wrap (((x : Nat) : Int).tdiv 2) = ((x / 2 : Nat) : Int) := by
        have e : ((x : Nat) : Int).tdiv 2 = ((x / 2 : Nat) : Int) := rfl
        rw [e]
        simp [IntKind.wrap, IntKind.bits, IntKind.signed]
        omega
      refine ⟨bitLen (x / 2), by omega, k + 1, x / 2, g1, rfl, by omega, by omega, ?_, e3⟩
      rw [e2, e4, wrapI (by omega) (by omega)]
      rfl
  · match e', he with
    | none, he => exact he
    | some none, he => exact he
    | some (some _), he => exact he
theorem of_end {N : Int} {h : Hp} {a b c d z : Value} (hN : Small N) (g : Nat → Value)
    (fin : ∀ (x : Value) (g : Nat → Value), Runs (tabH Tryd.prog extY conO hcO) (oFin Tryd.f4) (oF N a b c d z (i6' (bitLen N.toNat : Nat)) x ++ tl 74 g, h, []) fun e y => e = some none ∧ (∃ g, y.1 = [.int .u64 N, undef, .bool true] ++ tl 85 g) ∧ y.2.1 = h) :
    Runs (tabH Tryd.prog extY conO hcO) (.seq (.seq (oR7 Tryd.f4) (.block 0 (.loop (oL Tryd.f4)))) (oFin Tryd.f4)) (oF N a b c d z (i6' 0) undef ++ tl 74 g, h, []) fun e y => (e = none ∨ e = some none) ∧ resS Tryd.prog Tryd.f4 y.1 y.2.1 = some (.bool true) := by
  refine Runs.seq (P1 := fun e' y => e' = none ∧ ∃ (x : Value) (g : Nat → Value), y.1 = oF N a b c d z (i6' (bitLen N.toNat : Nat)) x ++ tl 74 g ∧ y.2.1 = h) ?_ ?_ (fun e y he => by cases he.1)
  · refine Runs.seq (goesT_runs (tabH_ok conO_ok hcO_ok) (of_r7 N a b c d z (i6' 0) undef h g) (fun x hx => by cases hx)) ?_ (fun e y he => by cases he.1)
    rintro ⟨t, h', s⟩ ⟨_, ⟨g1, ht⟩, hh⟩
    simp only at ht hh
    subst ht hh
    refine (of_loop N hN a b c d z _ g1 s).mono fun e' y he => ?_
    match e', he with
    | none, he => exact ⟨rfl, he⟩
  · rintro ⟨t, h', s⟩ ⟨_, x, g1, ht, hh⟩
    simp only at ht hh
    subst ht hh
    refine Runs.script ((fin x g1).mono fun e y he => ?_)
    obtain ⟨e1, ⟨g2, e2⟩, e3⟩ := he
    refine ⟨.inr e1, ?_⟩
    rw [e2]
    rfl
theorem okB {x d : Bool} {l : Log} (h : x = d) (hl : okLog l) : okLog ((x, d) :: l) := okTwo h hl
theorem small10 (k : Nat) (hk : k ≤ 10) : smallC k = true := blt_iff.2 (by unfold dead; omega)
theorem kA_ok {N : Int} (hN : Small N) (F : Facts N) : (rA N).1 = (rA N).2 := show rowOk tU (A2 N) 0 (mN N) 2 = true from rowU (W := W2 N) hN.w.1 (k := mN N) (c := 2) F.m2 F.m2 (small10 2 (by omega))
theorem wS_ok {N : Int} (F : Facts N) : wds (SN N) := by rw [F.sv]; exact dg_wds _ _
theorem kS_len {N : Int} (F : Facts N) : tN N ≤ (SN N).length := by
  have lSN : (SN N).length = mN N + 1 := by rw [F.sv, dg_len]
  rw [lSN]
  exact F.t3
theorem kS_cap {N : Int} (F : Facts N) : tN N ≤ mxN (mN N) (mN N) + 1 := by
  rw [mx_self]
  exact F.t3
theorem kS_small {N : Int} (F : Facts N) : smallC (mxN (mN N) (mN N) + 1) = true := by
  rw [mx_self]
  exact small10 _ (Nat.le_trans (Nat.succ_le_succ F.m2) (by omega))
theorem kS_row {N : Int} (F : Facts N) : rowOk tU (wU (SN N)) 0 (tN N) (mxN (mN N) (mN N) + 1) = true := rowU (wS_ok F) (kS_len F) (kS_cap F) (kS_small F)
theorem kS_ok {N : Int} (F : Facts N) : (rS N).1 = (rS N).2 := by
  unfold rS
  dsimp only
  exact kS_row F
theorem k2_ok {N : Int} (hN : Small N) : rowOk tU (A2 N) 0 2 2 = true := rowU (W := W2 N) hN.w.1 (k := 2) (c := 2) (Nat.le_refl 2) (by omega) (small10 2 (by omega))
theorem bL_ok {N : Int} (F : Facts N) : badL (LN N) = false := badL_of F.cL (by have := F.m2; have := F.lL; omega)
theorem bS_ok {N : Int} (F : Facts N) : badL (SL N) = false := badL_of F.cS (by have := F.m2; have := F.t3; have := F.lS; omega)
theorem c1_ok {N : Int} (F : Facts N) : decide (cmpL (LN N) (LN N) < 0) = false := decide_eq_false (by rw [(cmpL_val F.cL F.cL).1]; omega)
theorem c2_ok {N : Int} (hN : Small N) (F : Facts N) : decide (cmpL (SL N) (LN N) < 0) = false := decide_eq_false (by
  have n0 := hN.n0
  rw [(cmpL_val F.cS F.cL).1, F.vS, F.vL]
  omega)
theorem kD_ok {N : Int} (F : Facts N) : rowOk tU (wU (DN N)) 0 (trimN (DN N)) (tN N) = true := rowU (W := DN N) (by unfold DN difL; exact dg_wds _ _) (trimN_le _) F.lD (small10 _ (by have := F.m2; have := F.t3; omega))
theorem kH_ok {N : Int} (F : Facts N) : rowOk tU (wU (HN N)) 0 (trimN (HN N)) (1 / 32 + (mN N + 1)) = true := by
  have m2 := F.m2
  have lSN : (SN N).length = mN N + 1 := by rw [F.sv, dg_len]
  rw [F.hs]
  exact rowU (W := SN N) (wS_ok F) (trimN_le _) (by have := trimN_le (SN N); omega) (small10 _ (by omega))
theorem w1_ok {N : Int} (F : Facts N) : decide (SL N = cutI (wU (HN N)) 0 (trimN (HN N))) = true := decide_eq_true (by rw [F.hs]; rfl)
theorem last_ok {N : Int} (F : Facts N) (hm : mN N ≠ 0) : (W2 N).getD (mN N - 1) 0 ≠ 0 ∧ cellIs ((A2 N)[0 + (n1 (mN N)).toNat * 1]?) (uu ((W2 N).getD (mN N - 1) 0)) = true ∧ decide (0 ≤ n1 (mN N) ∧ n1 (mN N) < (mN N : Nat)) = true := by
  have m2 := F.m2
  have ek : n1 (mN N) = ((mN N - 1 : Nat) : Int) := by
    unfold n1
    rw [wrapI (by omega) (by omega)]
    omega
  refine ⟨?_, ?_, ?_⟩
  · rcases trimN_top (W2 N) with h | h
    · exact absurd (h ▸ mN_eq N) hm
    · rw [mN_eq]; exact h
  · rw [ek, Int.toNat_natCast, Nat.mul_one, Nat.zero_add]
    rcases (show mN N = 1 ∨ mN N = 2 by omega) with h2 | h2 <;> rw [h2] <;> simp [A2, W2, cellIs, uu]
  · rw [ek]; exact decide_eq_true (by omega)
theorem q1_ok {N : Int} (F : Facts N) (hm : mN N ≠ 0) : decide ((1 : Int) > 262144 - lenN (LN N)) = false := decide_eq_false (by
  have m2 := F.m2
  have lL := F.lL
  have hg := F.cL.1 ((LN N).getD ((LN N).length - 1) 0) (by
    have hk' : (LN N).length - 1 < (LN N).length := by omega
    simp [List.getD, List.getElem?_eq_getElem hk'])
  have := bitLen_32 hg.1 hg.2
  unfold lenN
  split <;> omega)
theorem natof_zero {N : Int} (hN : Small N) (F : Facts N) (hm : mN N = 0) : Runs (tabH Tryd.prog extY conO hcO) (seqs (oPre Tryd.f4) (.seq (.seq (oR7 Tryd.f4) (.block 0 (.loop (oL Tryd.f4)))) (oFin Tryd.f4))) ([.int .u64 N] ++ List.replicate 87 undef, ⟨0, []⟩, []) fun e y => (e = none ∨ e = some none) ∧ resS Tryd.prog Tryd.f4 y.1 y.2.1 = some (.bool true) := by
  have b1 : (badL (LN N) || badL (LN N)) = false := by rw [bL_ok F]; rfl
  have b2 : (badL (SL N) || badL (LN N)) = false := by rw [bL_ok F, bS_ok F]; rfl
  have b3 : (badL (LN N) || decide ((1 : Int) < 0)) = false := by rw [bL_ok F]; rfl
  have a1 : decide ((tN N : Int) > 8192) = false := decide_eq_false (by have := F.m2; have := F.t3; omega)
  have d1 : decide (cutI (wU (DN N)) 0 (trimN (DN N)) = LN N) = true := decide_eq_true (by rw [cutI_wU]; exact F.dL)
  have z1 : (((trimN (ZN N) : Nat) : Int) == 0) = true := by rw [F.z0]; rfl
  have e1 : (lenN (LN N) == ((bitLen N.toNat : Nat) : Int)) = true := by rw [hN.len F]; exact beq_self_eq_true _
  have m1 : decide (mN N = 0) = true := decide_eq_true hm
  have m3 : ((mN N : Int) == 0) = true := by rw [hm]; rfl
  have hN0 : N = 0 := by
    have hz : LN N = [] := List.eq_nil_of_length_eq_zero (by rw [F.lL, hm])
    have := F.vL
    rw [hz] at this
    simpa [vN] using this.symm
  have t0 : decide (tN N = 0) = true := decide_eq_true (by rw [← F.lS]; exact canon_zero F.cS (by rw [F.vS]; omega))
  have kA := kA_ok hN F
  refine goesT_list (tabH_ok conO_ok hcO_ok) (of_pre0 N) (okTwo kA (okTwo kA (okB b1 (okB (c1_ok F) (okTwo (kS_ok F) (okTwo kA (okB b2 (okB (c2_ok hN F) (okTwo kA (okB b3 (okB m1 (okTwo kA (okTwo kA (okB b1 (okB a1 (okB (k2_ok hN) (okOne rfl))))))))))))))))) fun g => ?_
  exact of_end hN g fun x g => goesT_runs (tabH_ok conO_ok hcO_ok) (of_fin0 N _ x g) (okB m3 (okB z1 (okB (kD_ok F) (okTwo kA (okB d1 (okB t0 (okB e1 (okOne kA))))))))
theorem natof_more {N : Int} (hN : Small N) (F : Facts N) (hm : mN N ≠ 0) : Runs (tabH Tryd.prog extY conO hcO) (seqs (oPre Tryd.f4) (.seq (.seq (oR7 Tryd.f4) (.block 0 (.loop (oL Tryd.f4)))) (oFin Tryd.f4))) ([.int .u64 N] ++ List.replicate 87 undef, ⟨0, []⟩, []) fun e y => (e = none ∨ e = some none) ∧ resS Tryd.prog Tryd.f4 y.1 y.2.1 = some (.bool true) := by
  have b1 : (badL (LN N) || badL (LN N)) = false := by rw [bL_ok F]; rfl
  have b2 : (badL (SL N) || badL (LN N)) = false := by rw [bL_ok F, bS_ok F]; rfl
  have b3 : (badL (LN N) || decide ((1 : Int) < 0)) = false := by rw [bL_ok F]; rfl
  have a1 : decide ((tN N : Int) > 8192) = false := decide_eq_false (by have := F.m2; have := F.t3; omega)
  have d1 : decide (cutI (wU (DN N)) 0 (trimN (DN N)) = LN N) = true := decide_eq_true (by rw [cutI_wU]; exact F.dL)
  have z1 : (((trimN (ZN N) : Nat) : Int) == 0) = true := by rw [F.z0]; rfl
  have e1 : (lenN (LN N) == ((bitLen N.toNat : Nat) : Int)) = true := by rw [hN.len F]; exact beq_self_eq_true _
  have m1 : decide (mN N = 0) = false := decide_eq_false hm
  have m3 : ((mN N : Int) == 0) = false := by simpa using hm
  obtain ⟨y0, y2, y3⟩ := last_ok F hm
  have y1 : ((W2 N).getD (mN N - 1) 0 != 0) = true := by simpa using y0
  have y4 : decide ((mN N : Int) ≤ 8192) = true := decide_eq_true (by have := F.m2; omega)
  have kA := kA_ok hN F
  refine goesT_list (tabH_ok conO_ok hcO_ok) (of_pre N) (okTwo kA (okTwo kA (okB b1 (okB (c1_ok F) (okTwo (kS_ok F) (okTwo kA (okB b2 (okB (c2_ok hN F) (okTwo kA (okB b3 (okB m1 (okB (q1_ok F hm) (okTwo kA (okTwo kA (okB b1 (okB a1 (okB (k2_ok hN) (okOne rfl)))))))))))))))))) fun g => ?_
  exact of_end hN g fun x g => goesT_runs (tabH_ok conO_ok hcO_ok) (of_fin N _ _ x g) (okB y1 (okB y2 (okB y3 (okB y4 (okB m3 (okB z1 (okB (kD_ok F) (okTwo kA (okB d1 (okTwo (kS_ok F) (okB (kH_ok F) (okB (w1_ok F) (okB e1 (okOne kA))))))))))))))
theorem natof_runs {N : Int} (hN : Small N) : Runs (tabH Tryd.prog extY conO hcO) (seqs (oPre Tryd.f4) (.seq (.seq (oR7 Tryd.f4) (.block 0 (.loop (oL Tryd.f4)))) (oFin Tryd.f4))) ([.int .u64 N] ++ List.replicate 87 undef, ⟨0, []⟩, []) fun e y => (e = none ∨ e = some none) ∧ resS Tryd.prog Tryd.f4 y.1 y.2.1 = some (.bool true) := by
  by_cases hm : mN N = 0
  · exact natof_zero hN hN.facts hm
  · exact natof_more hN hN.facts hm
theorem natof_calls {N : Int} (h0 : 0 ≤ N) (h1 : N < 18446744073709551616) (w : World) : Calls Tryd.prog 4 #[.int .u64 N] w fun e w' => e = .returned (.bool true) ∧ Tidy w w' :=
  calls_of_runs (T := tabH Tryd.prog extY conO hcO) Tryd.func4 natof_body (vals := [.int .u64 N]) (by rfl) (by rfl) (natof_runs ⟨h0, h1⟩) w
end Go.Proofs.YtcnmfjhefioldabDoor
