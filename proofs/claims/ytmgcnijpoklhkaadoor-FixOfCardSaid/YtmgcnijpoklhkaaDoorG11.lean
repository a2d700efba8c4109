/-
  FiF, FiG, Hcs, NumN, ConN1, NumV, ConV1, NumW
-/
import Derived.Test.YtmgcnijpoklhkaaDoorG10
namespace Go.Proofs.YtmgcnijpoklhkaaDoor
open Go.KRun Go.Wd
set_option maxRecDepth 100000
def errF (k : Int) : Value := .iface 57 (.int .i64 k)
theorem qz_fits (a b : W4) : Fits (reckon (tabOf Tryd.prog extY conN true) 300 28 [vW a, vW b] [sam true]) (.tuple #[vW ⟨0, 0, 0, 0⟩, vW ⟨0, 0, 0, 0⟩, errF 5]) [(eqW b ⟨0, 0, 0, 0⟩, true)] := ⟨by kernel_rfl, by kernel_rfl, by kernel_rfl, by kernel_rfl⟩
/-- the quotient and the rest, or the error; told ahead whether it is by nothing -/
def gQZ : Ans := fun vals s =>
  match vals, s with
  | [x, y], .inr (.inr (.inr (.inl d))) :: s' =>
    match w4 x, w4 y, d with
    | some a, some b, true => some (.tuple #[vW ⟨0, 0, 0, 0⟩, vW ⟨0, 0, 0, 0⟩, errF 5], s', [(decide (b.val = 0), true), q2 a b])
    | some a, some b, false => some (qrV (W4.of (a.val / b.val)) (W4.of (a.val % b.val)), s', [(decide (b.val = 0), false), q2 a b])
    | _, _, _ => none
  | _, _ => none
theorem gQZ_ok : AnsOk 28 gQZ := by
  intro vals s v s' lg h hl w
  unfold gQZ at h
  split at h
  · split at h
    · rename_i a b ha hb
      cases h
      have h1 := of_decide_eq_true (hl _ List.mem_cons_self)
      have h2 := hl _ (List.mem_cons_of_mem _ (List.mem_singleton.2 rfl))
      simp only [q2, decide_eq_true_eq] at h2
      rw [w4_spec ha, w4_spec hb]
      have e : b = ⟨0, 0, 0, 0⟩ := W4.val_inj h2.2 ⟨z64, z64, z64, z64⟩ (h1.trans (by rfl))
      exact fits_calls (tabY_ok conN_ok) (qz_fits a b) (okP1 (eqW_iff.2 e)) (by rfl) (by rfl) w
    · rename_i a b ha hb
      cases h
      have h1 := of_decide_eq_false (hl _ List.mem_cons_self)
      have h2 := hl _ (List.mem_cons_of_mem _ (List.mem_singleton.2 rfl))
      simp only [q2, decide_eq_true_eq] at h2
      rw [w4_spec ha, w4_spec hb]
      exact divmod_calls a b h2.1 h2.2 h1 w
    · cases h
  · cases h
def conFQ : Con := alt 28 gQZ conFA
theorem conFQ_ok : ConOk conFQ := alt_ok Tryd.func28 rfl gQZ_ok conFA_ok
def nW1 (n : Int) : W4 := ⟨n, 0, 0, 0⟩
def foA (n : Int) : W4 := shlW (nW1 n) 192
def foQ (n d : Int) : W4 := W4.of ((foA n).val / (nW1 d).val)
def foR (n d : Int) : W4 := W4.of ((foA n).val % (nW1 d).val)
def foL (n d : Int) : W4 := W4.of ((shlW (foR n d) 56).val / (nW1 d).val)
def foW (n d : Int) : W4 := W4.of ((shlW (foQ n d) 56).val + (foL n d).val)
def zW : W4 := ⟨0, 0, 0, 0⟩
def lq1 (n d : Int) (b : Bool) : Bool × Bool := (decide (lenI (foQ n d) > 200), b)
theorem fo_zero (n d : Int) : Fits (reckon (tabOf Tryd.prog extY conFQ true) 300 6 [.int .u64 n, .int .u64 d] [cmp true]) (.tuple #[vW zW, errF 5]) [(decide ((nW1 d).val = 0), true), q2 (foA n) (nW1 d), qk (nW1 n) 192] := ⟨by kernel_rfl, by kernel_rfl, by kernel_rfl, by kernel_rfl⟩
theorem fo_long (n d : Int) : Fits (reckon (tabOf Tryd.prog extY conFQ true) 300 6 [.int .u64 n, .int .u64 d] [cmp false, cmp true]) (.tuple #[vW zW, errF 2]) [lq1 n d true, oW (foQ n d), (decide ((nW1 d).val = 0), false), q2 (foA n) (nW1 d), qk (nW1 n) 192] := ⟨by kernel_rfl, by kernel_rfl, by kernel_rfl, by kernel_rfl⟩
theorem fo_in (n d : Int) : Fits (reckon (tabOf Tryd.prog extY conFQ true) 300 6 [.int .u64 n, .int .u64 d] [cmp false, cmp false, cmp false]) (.tuple #[vW (foW n d), .nilIface]) [q2 (shlW (foQ n d) 56) (foL n d), qk (foQ n d) 56, (decide ((nW1 d).val = 0), false), q2 (shlW (foR n d) 56) (nW1 d), qk (foR n d) 56, lq1 n d false, oW (foQ n d), (decide ((nW1 d).val = 0), false), q2 (foA n) (nW1 d), qk (nW1 n) 192] := ⟨by kernel_rfl, by kernel_rfl, by kernel_rfl, by kernel_rfl⟩
/-- the quotient -/
def foI (n d : Int) : Int := n * 452312848583266388373324160190187140051835877600158453279131187530910662656 / d
abbrev uu (n d : Int) : Prop := (0 ≤ n ∧ n < 18446744073709551616) ∧ 0 ≤ d ∧ d < 18446744073709551616
theorem nW1_val (n : Int) : (nW1 n).val = n := by unfold nW1 W4.val; dsimp only; omega
theorem shl_ok1 (x : W4) (k : Int) (h : x.ok) : (shlW x k).ok := by
  unfold shlW
  split
  · exact h
  · split
    · exact ⟨z64, z64, z64, z64⟩
    · exact W4.ok_of _
theorem fo_num {n d : Int} (h : uu n d) (hd : d ≠ 0) : (lenI (foQ n d) > 200 ↔ 115792089237316195423570985008687907853269984665640564039457584007913129639936 ≤ foI n d) ∧ (¬ 115792089237316195423570985008687907853269984665640564039457584007913129639936 ≤ foI n d → foW n d = W4.of (foI n d)) := by
  obtain ⟨⟨n0, n1⟩, d0, d1⟩ := h
  have e192 : (2 : Int) ^ (192 : Int).toNat = 6277101735386680763835789423207666416102355444464034512896 := by rfl
  have e56 : (2 : Int) ^ (56 : Int).toNat = 72057594037927936 := by rfl
  have eA : (foA n).val = n * 6277101735386680763835789423207666416102355444464034512896 := by
    unfold foA shlW
    rw [if_neg (by decide), if_neg (by decide), W4.val_of, e192, nW1_val]
    omega
  have hdiv := Int.mul_ediv_add_emod (n * 6277101735386680763835789423207666416102355444464034512896) d
  have m0 := Int.emod_nonneg (n * 6277101735386680763835789423207666416102355444464034512896) hd
  have m1 := Int.emod_lt_of_pos (n * 6277101735386680763835789423207666416102355444464034512896) (show 0 < d by omega)
  have q0 : 0 ≤ n * 6277101735386680763835789423207666416102355444464034512896 / d := Int.ediv_nonneg (by omega) d0
  have q1 : n * 6277101735386680763835789423207666416102355444464034512896 / d ≤ n * 6277101735386680763835789423207666416102355444464034512896 := Int.ediv_le_self _ (by omega)
  have eQ : (foQ n d).val = n * 6277101735386680763835789423207666416102355444464034512896 / d := by
    unfold foQ
    rw [eA, nW1_val, W4.val_of]
    omega
  have eR : (foR n d).val = n * 6277101735386680763835789423207666416102355444464034512896 % d := by
    unfold foR
    rw [eA, nW1_val, W4.val_of]
    omega
  have eF : foI n d = n * 6277101735386680763835789423207666416102355444464034512896 / d * 72057594037927936 + n * 6277101735386680763835789423207666416102355444464034512896 % d * 72057594037927936 / d := by
    unfold foI
    generalize hq : n * 6277101735386680763835789423207666416102355444464034512896 / d = q at *
    generalize hr : n * 6277101735386680763835789423207666416102355444464034512896 % d = r at *
    have : n * 452312848583266388373324160190187140051835877600158453279131187530910662656 = q * 72057594037927936 * d + r * 72057594037927936 := by
      have e : n * 452312848583266388373324160190187140051835877600158453279131187530910662656 = n * 6277101735386680763835789423207666416102355444464034512896 * 72057594037927936 := by omega
      rw [e, ← hdiv, Int.add_mul, Int.mul_right_comm q, Int.mul_comm d q]
    rw [this, Int.add_comm, Int.add_mul_ediv_right _ _ hd, Int.add_comm]
  have f0 : 0 ≤ n * 6277101735386680763835789423207666416102355444464034512896 % d * 72057594037927936 / d := Int.ediv_nonneg (by omega) d0
  have f1 : n * 6277101735386680763835789423207666416102355444464034512896 % d * 72057594037927936 / d < 72057594037927936 := Int.ediv_lt_of_lt_mul (by omega) (by
    have := Int.mul_lt_mul_of_pos_right m1 (show (0 : Int) < 72057594037927936 by decide)
    rw [Int.mul_comm 72057594037927936]
    exact this)
  constructor
  · have g := lenI_gt (foQ n d) 200
    have p : (2 : Nat) ^ 200 = 1606938044258990275541962092341162602522202993782792835301376 := by rfl
    have e : (foQ n d).nat = (n * 6277101735386680763835789423207666416102355444464034512896 / d).toNat := by unfold W4.nat; rw [eQ]
    rw [p, e] at g
    rw [eF]
    generalize n * 6277101735386680763835789423207666416102355444464034512896 / d = q at *
    generalize n * 6277101735386680763835789423207666416102355444464034512896 % d * 72057594037927936 / d = f at *
    omega
  · intro hl
    have eS : (shlW (foR n d) 56).val = n * 6277101735386680763835789423207666416102355444464034512896 % d * 72057594037927936 := by
      unfold shlW
      rw [if_neg (by decide), if_neg (by decide), W4.val_of, e56, eR]
      omega
    have eL : (foL n d).val = n * 6277101735386680763835789423207666416102355444464034512896 % d * 72057594037927936 / d := by
      unfold foL
      rw [eS, nW1_val, W4.val_of]
      omega
    have eT : (shlW (foQ n d) 56).val = n * 6277101735386680763835789423207666416102355444464034512896 / d * 72057594037927936 := by
      unfold shlW
      rw [if_neg (by decide), if_neg (by decide), W4.val_of, e56, eQ]
      rw [eF] at hl
      generalize n * 6277101735386680763835789423207666416102355444464034512896 / d = q at *
      generalize n * 6277101735386680763835789423207666416102355444464034512896 % d * 72057594037927936 / d = f at *
      omega
    unfold foW
    rw [eT, eL, eF]
theorem nW1_ok {n : Int} (h : 0 ≤ n ∧ n < 18446744073709551616) : (nW1 n).ok := ⟨h, z64, z64, z64⟩
theorem of_zero {n d : Int} (h : uu n d) (hd : d = 0) (w : World) : Calls Tryd.prog 6 #[.int .u64 n, .int .u64 d] w fun e w' => e = .returned (.tuple #[vW zW, errF 5]) ∧ Tidy w w' := by
  have z : decide ((nW1 d).val = 0) = true := decide_eq_true (by rw [nW1_val]; exact hd)
  have a1 : (q2 (foA n) (nW1 d)).1 = (q2 (foA n) (nW1 d)).2 := decide_eq_true ⟨shl_ok1 _ _ (nW1_ok h.1), nW1_ok h.2⟩
  have a2 : (qk (nW1 n) 192).1 = (qk (nW1 n) 192).2 := decide_eq_true ⟨nW1_ok h.1, by decide, by decide⟩
  exact fits_calls (tabY_ok conFQ_ok) (fo_zero n d) (okPC z (okPC a1 (okP1 a2))) (by rfl) (by rfl) w
theorem of_long {n d : Int} (h : uu n d) (hd : d ≠ 0) (hl : 115792089237316195423570985008687907853269984665640564039457584007913129639936 ≤ foI n d) (w : World) : Calls Tryd.prog 6 #[.int .u64 n, .int .u64 d] w fun e w' => e = .returned (.tuple #[vW zW, errF 2]) ∧ Tidy w w' := by
  have z : decide ((nW1 d).val = 0) = false := decide_eq_false (by rw [nW1_val]; exact hd)
  have a1 : (q2 (foA n) (nW1 d)).1 = (q2 (foA n) (nW1 d)).2 := decide_eq_true ⟨shl_ok1 _ _ (nW1_ok h.1), nW1_ok h.2⟩
  have a2 : (qk (nW1 n) 192).1 = (qk (nW1 n) 192).2 := decide_eq_true ⟨nW1_ok h.1, by decide, by decide⟩
  have a3 : (oW (foQ n d)).1 = (oW (foQ n d)).2 := decide_eq_true (W4.ok_of _)
  have a4 : (lq1 n d true).1 = (lq1 n d true).2 := decide_eq_true ((fo_num h hd).1.2 hl)
  exact fits_calls (tabY_ok conFQ_ok) (fo_long n d) (okPC a4 (okPC a3 (okPC z (okPC a1 (okP1 a2))))) (by rfl) (by rfl) w
theorem of_in {n d : Int} (h : uu n d) (hd : d ≠ 0) (hl : ¬ 115792089237316195423570985008687907853269984665640564039457584007913129639936 ≤ foI n d) (w : World) : Calls Tryd.prog 6 #[.int .u64 n, .int .u64 d] w fun e w' => e = .returned (.tuple #[vW (W4.of (foI n d)), .nilIface]) ∧ Tidy w w' := by
  have z : decide ((nW1 d).val = 0) = false := decide_eq_false (by rw [nW1_val]; exact hd)
  have a1 : (q2 (foA n) (nW1 d)).1 = (q2 (foA n) (nW1 d)).2 := decide_eq_true ⟨shl_ok1 _ _ (nW1_ok h.1), nW1_ok h.2⟩
  have a2 : (qk (nW1 n) 192).1 = (qk (nW1 n) 192).2 := decide_eq_true ⟨nW1_ok h.1, by decide, by decide⟩
  have a3 : (oW (foQ n d)).1 = (oW (foQ n d)).2 := decide_eq_true (W4.ok_of _)
  have a4 : (lq1 n d false).1 = (lq1 n d false).2 := decide_eq_false fun hh => hl ((fo_num h hd).1.1 hh)
  have a5 : (qk (foR n d) 56).1 = (qk (foR n d) 56).2 := decide_eq_true ⟨W4.ok_of _, by decide, by decide⟩
  have a6 : (q2 (shlW (foR n d) 56) (nW1 d)).1 = (q2 (shlW (foR n d) 56) (nW1 d)).2 := decide_eq_true ⟨shl_ok1 _ _ (W4.ok_of _), nW1_ok h.2⟩
  have a7 : (qk (foQ n d) 56).1 = (qk (foQ n d) 56).2 := decide_eq_true ⟨W4.ok_of _, by decide, by decide⟩
  have a8 : (q2 (shlW (foQ n d) 56) (foL n d)).1 = (q2 (shlW (foQ n d) 56) (foL n d)).2 := decide_eq_true ⟨shl_ok1 _ _ (W4.ok_of _), W4.ok_of _⟩
  rw [← (fo_num h hd).2 hl]
  exact fits_calls (tabY_ok conFQ_ok) (fo_in n d) (okPC a8 (okPC a7 (okPC z (okPC a6 (okPC a5 (okPC a4 (okPC a3 (okPC z (okPC a1 (okP1 a2)))))))))) (by rfl) (by rfl) w
/-- told ahead: by nothing; too great; the quotient -/
def gFOf : Ans := fun vals s =>
  match vals, s with
  | [.int .u64 n, .int .u64 d], .inr (.inr (.inr (.inl z))) :: s' =>
    match z, s' with
    | true, _ => some (.tuple #[vW zW, errF 5], s', [(decide (d = 0), true), (decide (uu n d), true)])
    | false, .inr (.inr (.inr (.inl true))) :: s2 => some (.tuple #[vW zW, errF 2], s2, [(decide (115792089237316195423570985008687907853269984665640564039457584007913129639936 ≤ foI n d), true), (decide (d = 0), false), (decide (uu n d), true)])
    | false, .inr (.inr (.inr (.inl false))) :: s2 => some (.tuple #[vW (W4.of (foI n d)), .nilIface], s2, [(decide (115792089237316195423570985008687907853269984665640564039457584007913129639936 ≤ foI n d), false), (decide (d = 0), false), (decide (uu n d), true)])
    | _, _ => none
  | _, _ => none
theorem gFOf_ok : AnsOk 6 gFOf := by
  intro vals s v s' lg h hl w
  unfold gFOf at h
  split at h
  · rename_i n d z s1
    split at h
    · cases h
      exact of_zero (of_decide_eq_true (hl _ (List.mem_cons_of_mem _ (List.mem_singleton.2 rfl)))) (of_decide_eq_true (hl _ List.mem_cons_self)) w
    · cases h
      exact of_long (of_decide_eq_true (hl _ (List.mem_cons_of_mem _ (List.mem_cons_of_mem _ (List.mem_singleton.2 rfl))))) (of_decide_eq_false (hl _ (List.mem_cons_of_mem _ List.mem_cons_self))) (of_decide_eq_true (hl _ List.mem_cons_self)) w
    · cases h
      exact of_in (of_decide_eq_true (hl _ (List.mem_cons_of_mem _ (List.mem_cons_of_mem _ (List.mem_singleton.2 rfl))))) (of_decide_eq_false (hl _ (List.mem_cons_of_mem _ List.mem_cons_self))) (of_decide_eq_false (hl _ List.mem_cons_self)) w
    · cases h
  · cases h
/-- the product; told ahead whether it is too great -/
def gFMd : Ans := fun vals s =>
  match vals, s with
  | [x, y], .inr (.inr (.inr (.inl d))) :: s' =>
    match w4 x, w4 y with
    | some a, some b => some (.tuple #[vW (W4.of (fmI a b)), .bool d], s', [(decide (115792089237316195423570985008687907853269984665640564039457584007913129639936 ≤ fmI a b), d), q2 a b])
    | _, _ => none
  | _, _ => none
theorem gFMd_ok : AnsOk 26 gFMd := by
  intro vals s v s' lg h hl w
  unfold gFMd at h
  split at h
  · split at h
    · rename_i a b ha hb
      cases h
      have h1 := hl _ List.mem_cons_self
      have h2 := of_decide_eq_true (hl _ (List.mem_cons_of_mem _ (List.mem_singleton.2 rfl)))
      simp only at h1
      rw [w4_spec ha, w4_spec hb, ← h1]
      exact fm_calls a b h2.1 h2.2 w
    · cases h
  · cases h
def conFu : Con := alt 6 gFOf conN
theorem conFu_ok : ConOk conFu := alt_ok Tryd.func6 rfl gFOf_ok conN_ok
theorem sure15_fits : Fits (reckon (tabOf Tryd.prog extY conFu true) 300 14 [] [cmp false, cmp false]) (.bool true) [(decide (115792089237316195423570985008687907853269984665640564039457584007913129639936 ≤ foI 1 2), false), (decide ((2 : Int) = 0), false), (decide (uu 1 2), true)] := ⟨by kernel_rfl, by kernel_rfl, by kernel_rfl, by kernel_rfl⟩
theorem sure15_calls (w : World) : Calls Tryd.prog 14 #[] w fun e w' => e = .returned (.bool true) ∧ Tidy w w' :=
  fits_calls (tabY_ok conFu_ok) sure15_fits (okPC (by decide +kernel) (okPC (by decide) (okP1 (by decide)))) (by rfl) (by rfl) w
def conF5 : Con := alt 14 (g0 (.bool true)) (alt 6 gFOf (alt 26 gFMd (alt 15 (gAng sinV) (alt 16 (gAng cosV) (alt 27 (g1n (plain1n shrV4)) conN)))))
theorem conF5_ok : ConOk conF5 := alt_ok Tryd.func14 rfl (g0_ok sure15_calls) (alt_ok Tryd.func6 rfl gFOf_ok (alt_ok Tryd.func26 rfl gFMd_ok (alt_ok Tryd.func15 rfl (gAng_ok sin_calls) (alt_ok Tryd.func16 rfl (gAng_ok cos_calls) (alt_ok Tryd.func27 rfl (plain1n_ok shr_calls) conN_ok)))))
end Go.Proofs.YtmgcnijpoklhkaaDoor
namespace Go.Proofs.YtmgcnijpoklhkaaDoor
open Go.KRun
set_option maxRecDepth 100000
theorem okOne {p : Bool × Bool} (h : p.1 = p.2) : okLog [p] := fun x hx => by rw [List.mem_singleton.1 hx]; exact h
theorem okTwo {p : Bool × Bool} {l : Log} (h : p.1 = p.2) (hl : okLog l) : okLog (p :: l) := fun x hx => by
  rcases List.mem_cons.1 hx with rfl | hx
  · exact h
  · exact hl x hx
theorem wrapI {n : Int} (h0 : -9223372036854775808 ≤ n) (h1 : n ≤ 9223372036854775807) : IntKind.i64.wrap n = n := by
  simp [IntKind.wrap, IntKind.bits, IntKind.signed]; omega
/-! ### what is known of calls with rows -/
abbrev Hc := Nat → List Value → Hp → List Dec → Option (Value × Hp × List Dec × Log)
abbrev AnsH := List Value → Hp → List Dec → Option (Value × Hp × List Dec × Log)
def AnsHOk (f : Nat) (g : AnsH) : Prop := ∀ vals h s v h' s' lg, g vals h s = some (v, h', s', lg) → okLog lg → ∀ m B w, Emb m B h w → (∀ v ∈ vals, lt h.n v = true) → Calls Tryd.prog f (vals.map (mv m)).toArray w fun e w' => ∃ m', e = .returned (mv m' v) ∧ Came m B h w v h' m' w'
structure HcOk (hc : Hc) : Prop where
  fn : ∀ f vals h s r, hc f vals h s = some r → ∃ F, Tryd.prog.funcs[f]? = some F ∧ F.body.isSome = true
  calls : ∀ f, AnsHOk f (hc f)
def hcN : Hc := fun _ _ _ _ => none
theorem hcN_ok : HcOk hcN := ⟨fun _ _ _ _ _ h => (by cases h), fun _ _ _ _ _ _ _ _ h => (by cases h)⟩
def altH (f : Nat) (g : AnsH) (hc : Hc) : Hc := fun f' vals h s => if Nat.beq f' f = true then g vals h s else hc f' vals h s
theorem altH_ok {f : Nat} {F : Func} (hF : Tryd.prog.funcs[f]? = some F) (hb : F.body.isSome = true) {g : AnsH} (hg : AnsHOk f g) {hc : Hc} (h : HcOk hc) : HcOk (altH f g hc) where
  fn := fun f' vals h' s r hr => by
    unfold altH at hr
    split at hr
    · rename_i e
      rw [Nat.eq_of_beq_eq_true e]
      exact ⟨F, hF, hb⟩
    · exact h.fn _ _ _ _ _ hr
  calls := fun f' vals h' s v h'' s' lg hr => by
    unfold altH at hr
    split at hr
    · rename_i e
      rw [Nat.eq_of_beq_eq_true e]
      exact hg _ _ _ _ _ _ _ hr
    · exact h.calls f' _ _ _ _ _ _ _ hr
def tabH (P : Program) (ext : Nat → List Value → Option (Value × Log)) (con : Con) (hc : Hc) : Tab := { P := P, fn := fun f => P.funcs[f]?, ext := ext, con := con, sym := true, hc := hc }
theorem tabH_ok {con : Con} (h : ConOk con) {hc : Hc} (hh : HcOk hc) : TabOk (tabH Tryd.prog extY con hc) where
  mixed := mixed
  ext := extY_ok
  con := fun f vals s v s' lg hc hl => ⟨by obtain ⟨F, h1, h2⟩ := h.fn f vals s v s' lg hc; exact ⟨F, (fns_ok f F h1).1, (fns_ok f F h1).2, h2⟩, h.calls f vals s v s' lg hc hl⟩
  fn := fns_ok
  hc := fun f vals h0 s v h' s' lg hr hl => ⟨by obtain ⟨F, h1, h2⟩ := hh.fn f vals h0 s _ hr; exact ⟨F, (fns_ok f F h1).1, (fns_ok f F h1).2, h2⟩, hh.calls f vals h0 s v h' s' lg hr hl⟩
end Go.Proofs.YtmgcnijpoklhkaaDoor
namespace Go.Nt
/-- how many are left without noughts at the end -/
def trimN : List Int → Nat
  | [] => 0
  | x :: r => if trimN r = 0 then (if x = 0 then 0 else 1) else trimN r + 1
theorem trimN_le : ∀ L : List Int, trimN L ≤ L.length
  | [] => Nat.le_refl _
  | x :: r => by
    have := trimN_le r
    unfold trimN
    split
    · split <;> simp
    · simp; omega
theorem trimN_high : ∀ (L : List Int) (i : Nat), trimN L ≤ i → L.getD i 0 = 0
  | [], i, _ => by simp
  | x :: r, i, h => by
    unfold trimN at h
    cases i with
    | zero =>
      split at h
      · split at h
        · rename_i h1; simp [h1]
        · omega
      · omega
    | succ i =>
      have := trimN_high r i (by split at h <;> (try split at h) <;> omega)
      simpa using this
theorem trimN_top : ∀ L : List Int, trimN L = 0 ∨ L.getD (trimN L - 1) 0 ≠ 0
  | [] => .inl rfl
  | x :: r => by
    have ih := trimN_top r
    unfold trimN
    split
    · split
      · exact .inl rfl
      · rename_i h; exact .inr (by simpa using h)
    · rename_i h
      rcases ih with ih | ih
      · exact absurd ih h
      · refine .inr ?_
        obtain ⟨k, hk⟩ : ∃ k, trimN r = k + 1 := ⟨trimN r - 1, by omega⟩
        rw [hk] at ih ⊢
        simpa using ih
theorem trimN_uniq {L : List Int} {k : Nat} (h1 : ∀ i, k ≤ i → L.getD i 0 = 0) (h2 : k = 0 ∨ L.getD (k - 1) 0 ≠ 0) : trimN L = k := by
  rcases Nat.lt_trichotomy (trimN L) k with h | h | h
  · rcases h2 with h2 | h2
    · omega
    · exact absurd (trimN_high L (k - 1) (by omega)) h2
  · exact h
  · rcases trimN_top L with h3 | h3
    · omega
    · exact absurd (h1 (trimN L - 1) (by omega)) h3
end Go.Nt
namespace Go.Proofs.YtmgcnijpoklhkaaDoor
open Go.KRun Go.Nt
set_option maxRecDepth 100000
/-- words of 32 bits; the type of such a row's block, only read -/
def wU (L : List Int) : List Value := L.map (Value.int .u32)
def tU : TypeId := 63
def tR : TypeId := 63 + dead
theorem tR_ro : ro tR = true := by kernel_rfl
theorem tR_ab : ab tR = false := by kernel_rfl
theorem tR_tomb : tomb tR = false := by kernel_rfl
theorem tR_rt : rt tR = tU := by kernel_rfl
def sl (b o n c : Nat) : Value := .slice (some ⟨b, o, none⟩) n c
def nilS : Value := .slice none 0 0
def n1 (n : Nat) : Int := IntKind.i64.wrap ((n : Int) - 1)
/-! ### rows of words in a memory -/
def intOf : Value → Int
  | .int _ n => n
  | _ => 0
def isU : Value → Bool
  | .int .u32 n => decide (0 ≤ n ∧ n < 4294967296)
  | _ => false
theorem isU_spec {v : Value} (h : isU v = true) : v = .int .u32 (intOf v) ∧ 0 ≤ intOf v ∧ intOf v < 4294967296 := by
  unfold isU at h
  split at h
  · simp only [decide_eq_true_eq] at h
    exact ⟨rfl, h.1, h.2⟩
  · cases h
def cutV (l : List Value) (o n : Nat) : List Value := (l.drop o).take n
def cutI (l : List Value) (o n : Nat) : List Int := (cutV l o n).map intOf
theorem cutV_words {l : List Value} {o n : Nat} (h : ((cutV l o n).all isU) = true) : cutV l o n = wU (cutI l o n) := by
  unfold wU cutI
  rw [List.map_map]
  refine (List.map_id' _).symm.trans (List.map_congr_left fun v hv => ?_)
  exact (isU_spec (List.all_eq_true.1 h v hv)).1
/-- what is needed of a row in the smallest memory -/
structure Row (l : List Value) (o : Nat) (L : List Int) : Prop where
  len : o + L.length ≤ l.length
  cut : cutV l o L.length = wU L
  rng : ∀ x ∈ L, 0 ≤ x ∧ x < 4294967296
theorem Row.cell {l : List Value} {o : Nat} {L : List Int} (h : Row l o L) {k : Nat} (hk : k < L.length) : l[o + k]? = some (.int .u32 (L.getD k 0)) := by
  have e : (cutV l o L.length)[k]? = (wU L)[k]? := by rw [h.cut]
  unfold cutV wU at e
  rw [List.getElem?_take, if_pos hk, List.getElem?_drop, List.getElem?_map] at e
  rw [e, List.getElem?_eq_getElem hk]
  simp [List.getD, List.getElem?_eq_getElem hk]
/-- one row, the smallest memory -/
theorem rows1 {l : List Value} (h : ∀ v ∈ l, still v = true) : (⟨1, [(l, tR)]⟩ : Hp).rows := by
  refine ⟨rfl, fun b x hb => ?_⟩
  have hb0 : b = 0 := by have : b < 1 := Hp.blk_lt hb; omega
  subst hb0
  have : x = (l, tR) := (Option.some.inj hb).symm
  rw [this]
  exact ⟨tR_ro, h, tR_ab⟩
theorem fitsR1 {l : List Value} {h : Hp} {b : Nat} {x : List Value × TypeId} (hb : h.blk? b = some x) (h1 : tomb x.2 = false) (h2 : rt x.2 = tU) (e : x.1 = l) : (⟨1, [(l, tR)]⟩ : Hp).fits (fun _ => b) h := by
  intro i y hi _
  have hb0 : i = 0 := by have : i < 1 := Hp.blk_lt hi; omega
  subst hb0
  have : y = (l, tR) := (Option.some.inj hi).symm
  rw [this]
  exact ⟨x, [], hb, h1, by rw [h2]; exact tR_rt.symm, by rw [e, List.append_nil]⟩
/-- two rows -/
def h2 (la lb : List Value) : Hp := ⟨2, [(lb, tR), (la, tR)]⟩
def pair (a b i : Nat) : Nat := if Nat.beq i 0 = true then a else b
theorem blk2 {la lb : List Value} {i : Nat} {x : List Value × TypeId} (h : (h2 la lb).blk? i = some x) : (i = 0 ∧ x = (la, tR)) ∨ (i = 1 ∧ x = (lb, tR)) := by
  have : i < 2 := Hp.blk_lt h
  have : i = 0 ∨ i = 1 := by omega
  rcases this with rfl | rfl
  · exact .inl ⟨rfl, (Option.some.inj h).symm⟩
  · exact .inr ⟨rfl, (Option.some.inj h).symm⟩
theorem rows2 {la lb : List Value} (ha : ∀ v ∈ la, still v = true) (hb : ∀ v ∈ lb, still v = true) : (h2 la lb).rows := by
  refine ⟨rfl, fun b x hx => ?_⟩
  rcases blk2 hx with ⟨_, e⟩ | ⟨_, e⟩ <;> rw [e]
  · exact ⟨tR_ro, ha, tR_ab⟩
  · exact ⟨tR_ro, hb, tR_ab⟩
theorem fitsR2 {h : Hp} {a b : Nat} {x y : List Value × TypeId} (hx : h.blk? a = some x) (x1 : tomb x.2 = false) (x2 : rt x.2 = tU) (hy : h.blk? b = some y) (y1 : tomb y.2 = false) (y2 : rt y.2 = tU) : (h2 x.1 y.1).fits (pair a b) h := by
  intro i z hz _
  rcases blk2 hz with ⟨rfl, e⟩ | ⟨rfl, e⟩ <;> rw [e]
  · exact ⟨x, [], hx, x1, by rw [x2]; exact tR_rt.symm, by rw [List.append_nil]⟩
  · exact ⟨y, [], hy, y1, by rw [y2]; exact tR_rt.symm, by rw [List.append_nil]⟩
end Go.Proofs.YtmgcnijpoklhkaaDoor
namespace Go.Nt
/-- a number's value, of digits to a base -/
def vb (b : Nat) : List Int → Nat
  | [] => 0
  | x :: l => x.toNat + b * vb b l
/-- a number's digits -/
def db (b V : Nat) : List Int := if _h : V = 0 ∨ b < 2 then [] else ((V % b : Nat) : Int) :: db b (V / b)
  termination_by V
  decreasing_by exact Nat.div_lt_self (by omega) (by omega)
/-- digits to a base -/
abbrev Dg (b : Nat) (x : Int) : Prop := 0 ≤ x ∧ x < b
theorem db_zero (b : Nat) : db b 0 = [] := by rw [db]; simp
theorem db_pos {b V : Nat} (hb : 2 ≤ b) (hV : V ≠ 0) : db b V = ((V % b : Nat) : Int) :: db b (V / b) := by
  rw [db]
  rw [dif_neg (by omega)]
theorem vb_db {b : Nat} (hb : 2 ≤ b) (V : Nat) : vb b (db b V) = V := by
  induction V using Nat.strongRecOn with
  | ind V ih =>
    by_cases hV : V = 0
    · subst hV; rw [db_zero]; rfl
    · rw [db_pos hb hV]
      simp only [vb]
      rw [ih (V / b) (Nat.div_lt_self (by omega) (by omega)), Int.toNat_natCast]
      exact Nat.mod_add_div V b
theorem db_dg {b : Nat} (hb : 2 ≤ b) (V : Nat) : ∀ x ∈ db b V, Dg b x := by
  induction V using Nat.strongRecOn with
  | ind V ih =>
    by_cases hV : V = 0
    · subst hV; rw [db_zero]; intro x hx; cases hx
    · rw [db_pos hb hV]
      intro x hx
      rcases List.mem_cons.1 hx with rfl | hx
      · have := Nat.mod_lt V (show b > 0 by omega)
        exact ⟨by omega, by omega⟩
      · exact ih (V / b) (Nat.div_lt_self (by omega) (by omega)) x hx
theorem db_nil {b V : Nat} (hb : 2 ≤ b) : db b V = [] ↔ V = 0 := by
  constructor
  · intro h
    by_cases hV : V = 0
    · exact hV
    · rw [db_pos hb hV] at h; cases h
  · rintro rfl; exact db_zero b
/-- digits without noughts at the end are the number's -/
theorem take_trim {b : Nat} (hb : 2 ≤ b) : ∀ (L : List Int), (∀ x ∈ L, Dg b x) → L.take (trimN L) = db b (vb b L)
  | [], _ => by simp [vb, db_zero]
  | x :: r, h => by
    have ih := take_trim hb r (fun y hy => h y (List.mem_cons_of_mem _ hy))
    have hx := h x (List.mem_cons_self)
    have hxn : ((x.toNat : Nat) : Int) = x := Int.toNat_of_nonneg hx.1
    have hlt : x.toNat < b := by omega
    have e1 : (x.toNat + b * vb b r) % b = x.toNat := by rw [Nat.add_mul_mod_self_left, Nat.mod_eq_of_lt hlt]
    have e2 : (x.toNat + b * vb b r) / b = vb b r := by rw [Nat.add_mul_div_left _ _ (by omega), Nat.div_eq_of_lt hlt, Nat.zero_add]
    unfold trimN
    by_cases h0 : trimN r = 0
    · rw [if_pos h0]
      rw [h0, List.take_zero] at ih
      have hv : vb b r = 0 := (db_nil hb).1 ih.symm
      by_cases hx0 : x = 0
      · rw [if_pos hx0]
        simp only [List.take_zero, vb, hv, hx0]
        simp [db_zero]
      · rw [if_neg hx0]
        have hx1 : x.toNat ≠ 0 := by omega
        show [x] = _
        simp only [vb]
        rw [db_pos hb (by rw [hv]; omega), e1, e2, hv, db_zero, hxn]
    · rw [if_neg h0]
      have hv : vb b r ≠ 0 := fun hv => by
        rw [hv, db_zero] at ih
        have hl := congrArg List.length ih
        have := trimN_le r
        simp at hl
        rcases hl with hl | hl
        · exact h0 hl
        · subst hl; exact h0 rfl
      have hpos : 0 < b * vb b r := Nat.mul_pos (by omega) (by omega)
      show x :: r.take (trimN r) = _
      simp only [vb]
      rw [db_pos hb (by omega), e1, e2, hxn, ih]
theorem trim_len {b : Nat} (hb : 2 ≤ b) {L : List Int} (h : ∀ x ∈ L, Dg b x) : trimN L = (db b (vb b L)).length := by
  rw [← take_trim hb L h]
  have := trimN_le L
  simp
  omega
/-- a number's digits are those of it -/
def Canon (b : Nat) (L : List Int) : Prop := (∀ x ∈ L, Dg b x) ∧ trimN L = L.length
theorem can_db {b : Nat} (hb : 2 ≤ b) (V : Nat) : Canon b (db b V) := by
  have h := db_dg hb V
  refine ⟨h, ?_⟩
  have := trim_len hb h
  rw [vb_db hb] at this
  exact this
theorem db_can {b : Nat} (hb : 2 ≤ b) {L : List Int} (h : Canon b L) : db b (vb b L) = L := by
  rw [← take_trim hb L h.1, h.2, List.take_length]
theorem db_len {b : Nat} (hb : 2 ≤ b) : ∀ (k V : Nat), V < b ^ k → (db b V).length ≤ k
  | 0, V, h => by
    have : V = 0 := by simpa using h
    subst this; rw [db_zero]; exact Nat.le_refl _
  | k + 1, V, h => by
    by_cases hV : V = 0
    · subst hV; rw [db_zero]; exact Nat.zero_le _
    · rw [db_pos hb hV]
      have : V / b < b ^ k := Nat.div_lt_of_lt_mul (by rw [Nat.pow_succ] at h; rw [Nat.mul_comm]; exact h)
      have := db_len hb k (V / b) this
      simp
      omega
theorem vb_lt {b : Nat} (hb : 2 ≤ b) : ∀ (L : List Int), (∀ x ∈ L, Dg b x) → vb b L < b ^ L.length
  | [], _ => by simp [vb]
  | x :: r, h => by
    have ih := vb_lt hb r (fun y hy => h y (List.mem_cons_of_mem _ hy))
    have hx := h x (List.mem_cons_self)
    have hlt : x.toNat < b := by omega
    simp only [vb, List.length_cons, Nat.pow_succ]
    calc x.toNat + b * vb b r < b + b * vb b r := by omega
      _ = b * (vb b r + 1) := by rw [Nat.mul_add, Nat.mul_one, Nat.add_comm]
      _ ≤ b * b ^ r.length := Nat.mul_le_mul_left _ ih
      _ = b ^ r.length * b := Nat.mul_comm _ _
theorem vb_append (b : Nat) : ∀ (L M : List Int), vb b (L ++ M) = vb b L + b ^ L.length * vb b M
  | [], M => by simp [vb]
  | x :: r, M => by
    simp only [List.cons_append, vb, vb_append b r M, List.length_cons, Nat.pow_succ]
    rw [Nat.mul_add, ← Nat.mul_assoc, Nat.mul_comm b (b ^ r.length)]
    omega
end Go.Nt
namespace Go.Proofs.YtmgcnijpoklhkaaDoor
open Go.KRun Go.Nt
set_option maxRecDepth 100000
def uPre (F : Func) : List Code := [cFst (cBody F), cFst (cSnd (cBody F))]
def uLoop (F : Func) : Code := cIn (cIn (cFst (cSnd (cSnd (cBody F)))))
def uEnd (F : Func) : Code := cSnd (cSnd (cSnd (cBody F)))
theorem utrim_body : Tryd.f35.body = some (seqs (uPre Tryd.f35) (.seq (.block 0 (.loop (uLoop Tryd.f35))) (uEnd Tryd.f35))) := by kernel_rfl
theorem utr_pre (p : Option Addr) (n c : Nat) (h : Hp) : GoesT (evL (tabOf Tryd.prog extY conN true) 100 (uPre Tryd.f35) ([.slice p n c] ++ List.replicate 21 undef, h, []) ⟨[], [], []⟩) 4 18 none [.slice p n c, undef, nilS, .int .i64 n] h [] := ⟨by kernel_rfl, by kernel_rfl, by kernel_rfl⟩
def i1 (k : Int) : Int := IntKind.i64.wrap (k - 1)
theorem utr_go (o n c : Nat) (k x : Int) (l : List Value) (j1 j2 : Value) (g : Nat → Value) : GoesT (evC (tabOf Tryd.prog extY conN true) 100 false (uLoop Tryd.f35) ([sl 0 o n c, j1, j2, .int .i64 k] ++ tl 18 g, ⟨1, [(l, tR)]⟩, [cmp true, at_, val (.int .u32 x), cmp true]) ⟨[], [], []⟩) 4 18 none [sl 0 o n c, j1, j2, .int .i64 (i1 k)] ⟨1, [(l, tR)]⟩
    [(x == 0, true), (cellIs (l[o + (i1 k).toNat * 1]?) (.int .u32 x), true), (decide (0 ≤ i1 k ∧ i1 k < n), true), (decide (k > 0), true)] := ⟨by kernel_rfl, by kernel_rfl, by kernel_rfl⟩
theorem utr_out1 (o n c : Nat) (k x : Int) (l : List Value) (j1 j2 : Value) (g : Nat → Value) : GoesT (evC (tabOf Tryd.prog extY conN true) 100 false (uLoop Tryd.f35) ([sl 0 o n c, j1, j2, .int .i64 k] ++ tl 18 g, ⟨1, [(l, tR)]⟩, [cmp true, at_, val (.int .u32 x), cmp false]) ⟨[], [], []⟩) 4 18 (some (some 0)) [sl 0 o n c, j1, j2, .int .i64 k] ⟨1, [(l, tR)]⟩
    [(x == 0, false), (cellIs (l[o + (i1 k).toNat * 1]?) (.int .u32 x), true), (decide (0 ≤ i1 k ∧ i1 k < n), true), (decide (k > 0), true)] := ⟨by kernel_rfl, by kernel_rfl, by kernel_rfl⟩
theorem utr_out0 (v : Value) (k : Int) (h : Hp) (j1 j2 : Value) (g : Nat → Value) : GoesT (evC (tabOf Tryd.prog extY conN true) 100 false (uLoop Tryd.f35) ([v, j1, j2, .int .i64 k] ++ tl 18 g, h, [cmp false]) ⟨[], [], []⟩) 4 18 (some (some 0)) [v, j1, j2, .int .i64 k] h [(decide (k > 0), false)] := ⟨by kernel_rfl, by kernel_rfl, by kernel_rfl⟩
theorem utr_end (o n c k : Nat) (l : List Value) (j1 j2 : Value) (g : Nat → Value) : GoesT (evC (tabOf Tryd.prog extY conN true) 100 false (uEnd Tryd.f35) ([sl 0 o n c, j1, j2, .int .i64 k] ++ tl 18 g, ⟨1, [(l, tR)]⟩, [num 0]) ⟨[], [], []⟩) 4 18 (some none) [sl 0 o n c, j1, sl 0 o k k, .int .i64 k] ⟨1, [(l, tR)]⟩
    [(smallC c, true), (okPart 0 k k c, true), (decide ((k : Int) = 0 ∧ (0 : Int) ≠ 0), false)] := ⟨by kernel_rfl, by kernel_rfl, by kernel_rfl⟩
theorem utr_endg (n k : Nat) (l : List Value) (j1 j2 : Value) (g : Nat → Value) : GoesT (evC (tabOf Tryd.prog extY conN true) 100 false (uEnd Tryd.f35) ([sl 0 0 n grown, j1, j2, .int .i64 k] ++ tl 18 g, ⟨1, [(l, tR)]⟩, [at_]) ⟨[], [], []⟩) 4 18 (some none) [sl 0 0 n grown, j1, sl 0 0 k k, .int .i64 k] ⟨1, [(l, tR)]⟩
    [(okPart 0 k k n, true), (decide ((k : Int) = 0 ∧ (0 : Int) ≠ 0), false), (!(tomb tR) && Nat.ble n l.length, true)] := ⟨by kernel_rfl, by kernel_rfl, by kernel_rfl⟩
/-- a capacity that is known, or the whole block's -/
def capOk (o n c : Nat) : Bool := (smallC c && Nat.ble n c) || (Nat.beq c grown && Nat.beq o 0)
theorem utrim_runs {l : List Value} {o c : Nat} {L : List Int} (hR : Row l o L) (hL : L.length < 4611686018427387904) (hc : capOk o L.length c = true) :
    Runs (tabOf Tryd.prog extY conN true) (seqs (uPre Tryd.f35) (.seq (.block 0 (.loop (uLoop Tryd.f35))) (uEnd Tryd.f35))) ([sl 0 o L.length c] ++ List.replicate 21 undef, ⟨1, [(l, tR)]⟩, []) fun e y => (e = none ∨ e = some none) ∧ resS Tryd.prog Tryd.f35 y.1 y.2.1 = some (sl 0 o (trimN L) (trimN L)) := by
  refine goesT_list (tabY_ok conN_ok) (utr_pre _ _ _ _) (fun x hx => by cases hx) fun g => ?_
  refine Runs.seq (P1 := fun e y => e = none ∧ (∃ g, y.1 = [sl 0 o L.length c, undef, nilS, .int .i64 (trimN L : Nat)] ++ tl 18 g) ∧ y.2.1 = ⟨1, [(l, tR)]⟩) ?_ ?_ (fun e y he => by cases he.1)
  · refine (Runs.forLoop (P := fun y => (∃ g, y.1 = [sl 0 o L.length c, undef, nilS, .int .i64 (trimN L : Nat)] ++ tl 18 g) ∧ y.2.1 = ⟨1, [(l, tR)]⟩) (R := fun _ => False) (fun n y => (∃ g, y.1 = [sl 0 o L.length c, undef, nilS, .int .i64 (n : Nat)] ++ tl 18 g) ∧ y.2.1 = ⟨1, [(l, tR)]⟩ ∧ n ≤ L.length ∧ ∀ i, n ≤ i → L.getD i 0 = 0) ?_ (n := L.length) ⟨⟨g, rfl⟩, rfl, Nat.le_refl _, fun i hi => by simp [List.getD, List.getElem?_eq_none hi]⟩).mono fun e y he => ?_
    · rintro n ⟨t, h', s⟩ ⟨⟨g, ht⟩, hh, hle, hz⟩
      simp only at ht hh
      subst ht hh
      cases n with
      | zero =>
        refine (goesT_runs (tabY_ok conN_ok) (utr_out0 _ _ _ undef nilS g) (okOne (by rfl))).mono fun e y he => ?_
        obtain ⟨rfl, ⟨g', h2⟩, h3⟩ := he
        have e0 : trimN L = 0 := trimN_uniq hz (.inl rfl)
        exact ⟨rfl, ⟨g', by rw [h2, e0]⟩, h3⟩
      | succ k =>
        have ek : i1 ((k + 1 : Nat) : Int) = (k : Int) := by
          unfold i1
          rw [wrapI (by omega) (by omega)]
          omega
        have hcell := hR.cell (k := k) (by omega)
        have hce : cellIs (l[o + (i1 ((k + 1 : Nat) : Int)).toNat * 1]?) (.int .u32 (L.getD k 0)) = true := by
          rw [ek, Int.toNat_natCast, Nat.mul_one, hcell]
          simp [cellIs]
        have hix : decide (0 ≤ i1 ((k + 1 : Nat) : Int) ∧ i1 ((k + 1 : Nat) : Int) < (L.length : Int)) = true := by rw [ek]; exact decide_eq_true (by omega)
        have hgt : decide (((k + 1 : Nat) : Int) > 0) = true := decide_eq_true (by omega)
        by_cases hx : L.getD k 0 = 0
        · refine (goesT_runs (tabY_ok conN_ok) (utr_go o L.length c ((k + 1 : Nat) : Int) (L.getD k 0) l undef nilS g) (okTwo (by rw [hx]; rfl) (okTwo hce (okTwo hix (okOne hgt))))).mono fun e y he => ?_
          obtain ⟨rfl, ⟨g', h2⟩, h3⟩ := he
          rw [ek] at h2
          refine ⟨k, by omega, ⟨g', h2⟩, h3, by omega, fun i hi => ?_⟩
          rcases Nat.lt_or_ge k i with h | h
          · exact hz i h
          · have : i = k := by omega
            rw [this]; exact hx
        · refine (goesT_runs (tabY_ok conN_ok) (utr_out1 o L.length c ((k + 1 : Nat) : Int) (L.getD k 0) l undef nilS g) (okTwo (by simpa using hx) (okTwo hce (okTwo hix (okOne hgt))))).mono fun e y he => ?_
          obtain ⟨rfl, ⟨g', h2⟩, h3⟩ := he
          have e0 : trimN L = k + 1 := trimN_uniq hz (.inr (by simpa using hx))
          exact ⟨rfl, ⟨g', by rw [h2, e0]⟩, h3⟩
    · match e, he with
      | none, he => exact ⟨rfl, he⟩
  · rintro ⟨t, h', s⟩ ⟨_, ⟨g', ht⟩, hh⟩
    simp only at ht hh
    subst ht hh
    have hle := trimN_le L
    have hp : okPart 0 (trimN L : Nat) (trimN L : Nat) (L.length : Nat) = true := by unfold okPart; exact decide_eq_true (by omega)
    unfold capOk at hc
    simp only [Bool.or_eq_true, Bool.and_eq_true] at hc
    rcases hc with ⟨h1, h2⟩ | ⟨h1, h2⟩
    · have h2 := Nat.le_of_ble_eq_true h2
      have h1' : c < 4611686018427387904 := blt_iff.1 h1
      refine (goesT_runs (tabY_ok conN_ok) (utr_end o L.length c (trimN L) l undef nilS g') (okTwo h1 (okTwo (by unfold okPart; exact decide_eq_true (by omega)) (okOne (decide_eq_false (by omega)))))).mono fun e y he => ?_
      obtain ⟨rfl, ⟨g2, h2⟩, h3⟩ := he
      refine ⟨.inr rfl, ?_⟩
      rw [h2, h3]
      rfl
    · have h1 := Nat.eq_of_beq_eq_true h1
      have h2 := Nat.eq_of_beq_eq_true h2
      subst h1 h2
      have hlen := hR.len
      refine (goesT_runs (tabY_ok conN_ok) (utr_endg L.length (trimN L) l undef nilS g') (okTwo hp (okTwo (decide_eq_false (by omega)) (okOne (by
        rw [tR_tomb, Nat.ble_eq_true_of_le (by omega)]; rfl))))).mono fun e y he => ?_
      obtain ⟨rfl, ⟨g2, h2⟩, h3⟩ := he
      refine ⟨.inr rfl, ?_⟩
      rw [h2, h3]
      rfl
/-- a row of words, its capacity known or the whole block's -/
def rowC (ty : TypeId) (l : List Value) (o n c : Nat) : Bool := !(tomb ty) && Nat.beq (rt ty) tU && Nat.ble (o + n) l.length && Nat.blt n 4611686018427387904 && capOk o n c && (cutV l o n).all isU && l.all still
theorem rowC_of {ty : TypeId} {l : List Value} {o n c : Nat} (h : rowC ty l o n c = true) : Row l o (cutI l o n) ∧ (cutI l o n).length = n ∧ n < 4611686018427387904 ∧ capOk o n c = true ∧ tomb ty = false ∧ rt ty = tU ∧ ∀ v ∈ l, still v = true := by
  unfold rowC at h
  simp only [Bool.and_eq_true, Bool.not_eq_true'] at h
  obtain ⟨⟨⟨⟨⟨⟨h1, h2⟩, h3⟩, h4⟩, h5⟩, h6⟩, h7⟩ := h
  have h2 := Nat.eq_of_beq_eq_true h2
  have h3 := Nat.le_of_ble_eq_true h3
  have h4 := blt_iff.1 h4
  have hlen : (cutI l o n).length = n := by unfold cutI cutV; simp; omega
  refine ⟨⟨by rw [hlen]; exact h3, by rw [hlen]; exact cutV_words h6, fun x hx => ?_⟩, hlen, h4, h5, h1, h2, List.all_eq_true.1 h7⟩
  unfold cutI at hx
  obtain ⟨v, hv, rfl⟩ := List.mem_map.1 hx
  have := isU_spec (List.all_eq_true.1 h6 v hv)
  exact ⟨this.2.1, this.2.2⟩
theorem utrim_nil : Fits (reckon (tabOf Tryd.prog extY conN true) 100 35 [nilS] []) nilS [] := ⟨by kernel_rfl, by kernel_rfl, by kernel_rfl, by kernel_rfl⟩
def gUtrim : AnsH := fun vals h s =>
  match vals with
  | [.slice none 0 0] => some (nilS, h, s, [])
  | [.slice (some ⟨b, o, none⟩) n c] =>
    match h.blk? b with
    | some x => some (sl b o (trimN (cutI x.1 o n)) (trimN (cutI x.1 o n)), h, s, [(rowC x.2 x.1 o n c, true)])
    | none => none
  | _ => none
theorem gUtrim_ok : AnsHOk 35 gUtrim := by
  intro vals h s v h' s' lg hg hl m B w E hv
  unfold gUtrim at hg
  split at hg
  · cases hg
    refine (fits_calls (tabY_ok conN_ok) utrim_nil (fun x hx => by cases hx) (by rfl) (by rfl) w).mono fun e w' he => ?_
    obtain ⟨E', hb⟩ := clean_emb E he.2
    exact ⟨m, he.1, ⟨Agree.refl _ _, E', hb, Nat.le_refl _, rfl⟩⟩
  · rename_i b o n c
    split at hg
    · rename_i x hx
      cases hg
      obtain ⟨h1, h2, h3, h4, h5, h6, h7⟩ := rowC_of (hl _ (List.mem_singleton.2 rfl))
      have hlt := Hp.blk_lt hx
      have r := utrim_runs (c := c) h1 (by rw [h2]; exact h3) (by rw [h2]; exact h4)
      rw [h2] at r
      have := row_calls (T := tabOf Tryd.prog extY conN true) Tryd.func35 utrim_body (rows1 h7) (vals := [sl 0 o n c]) (fun v hv => by rw [List.mem_singleton.1 hv]; rfl) (by rfl) r E (s := fun _ => b) (fun i _ => hlt) (fitsR1 hx h5 h6 rfl)
      exact this.mono fun e w' he => ⟨m, he.1, he.2⟩
    · cases hg
  · cases hg
end Go.Proofs.YtmgcnijpoklhkaaDoor
namespace Go.Nt
/-- each word's two parts -/
def fl : List Int → List Int
  | [] => []
  | x :: l => x % 65536 :: x / 65536 :: fl l
theorem fl_len : ∀ L : List Int, (fl L).length = 2 * L.length
  | [] => rfl
  | x :: l => by simp [fl, fl_len l]; omega
theorem fl_append : ∀ L M : List Int, fl (L ++ M) = fl L ++ fl M
  | [], M => rfl
  | x :: l, M => by simp [fl, fl_append l M]
theorem fl_dg : ∀ {L : List Int}, (∀ x ∈ L, 0 ≤ x ∧ x < 4294967296) → ∀ y ∈ fl L, Dg 65536 y
  | [], _, y, hy => by cases hy
  | x :: l, h, y, hy => by
    have hx := h x (List.mem_cons_self)
    simp only [fl, List.mem_cons] at hy
    rcases hy with rfl | rfl | hy
    · exact ⟨by omega, by omega⟩
    · exact ⟨by omega, by omega⟩
    · exact fl_dg (fun z hz => h z (List.mem_cons_of_mem _ hz)) y hy
theorem fl_val : ∀ {L : List Int}, (∀ x ∈ L, 0 ≤ x ∧ x < 4294967296) → vb 65536 (fl L) = vb 4294967296 L
  | [], _ => rfl
  | x :: l, h => by
    have hx := h x (List.mem_cons_self)
    simp only [fl, vb, fl_val (fun z hz => h z (List.mem_cons_of_mem _ hz))]
    omega
theorem vb_one (b : Nat) (x : Int) : vb b [x] = x.toNat := by simp [vb]
theorem vb_take (b : Nat) (L : List Int) (i : Nat) : vb b (L.take (i + 1)) = vb b (L.take i) + b ^ i * (L.getD i 0).toNat := by
  by_cases h : i < L.length
  · have e : L.take (i + 1) = L.take i ++ [L.getD i 0] := by
      rw [List.take_add_one, List.getElem?_eq_getElem h]
      simp [List.getD, List.getElem?_eq_getElem h]
    rw [e, vb_append, vb_one, List.length_take]
    rw [show min i L.length = i from by omega]
  · rw [List.take_of_length_le (by omega), List.take_of_length_le (by omega)]
    simp [List.getD, List.getElem?_eq_none (show L.length ≤ i by omega)]
theorem vb_snoc (b : Nat) (O : List Int) (x : Int) : vb b (O ++ [x]) = vb b O + b ^ O.length * x.toNat := by rw [vb_append, vb_one]
end Go.Nt
