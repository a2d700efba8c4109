/-
  rnd.Whole, as a call in every world.
-/
import Derived.Test.YtppbpbiibibiiaaG21
namespace Go.Proofs.Ytppbpbiibibiiaa
open Go.KRun Go.Wd Go.Pt Go.Rn
set_option maxRecDepth 100000

def whX (n : Bool) (ex : Int) (x : W4) (b : Bool) : Value := .tuple #[vN n ex x b, .bool false]
theorem wh1 (n b : Bool) (x : W4) (ex m : Int) : Fits (reckon (tabOf Try.prog extY conTi true) 300 13 [vN n ex x b, .int .i64 m] [cmp true]) (whX n ex x b) [(decide (ex > 0), true)] := ⟨by kernel_rfl, by kernel_rfl, by kernel_rfl, by kernel_rfl⟩
theorem wh2 (n : Bool) (x : W4) (ex m : Int) : Fits (reckon (tabOf Try.prog extY conTi true) 300 13 [vN n ex x false, .int .i64 m] [cmp false, cmp true]) (whX n ex x false) [(ex == 0, true), (decide (ex > 0), false)] := ⟨by kernel_rfl, by kernel_rfl, by kernel_rfl, by kernel_rfl⟩
def whQ (m : Int) (n : Bool) (x : W4) (b : Bool) (ex : Int) : Nat := toQ m n (tw x b) (clp ex - 1) 0
def whL (x : W4) (b : Bool) (ex : Int) : Bool := toL (tw x b) (clp ex - 1) 0
theorem wh3 (n e : Bool) (x : W4) (ex m : Int) : Fits (reckon (tabOf Try.prog extY conTi true) 300 13 [vN n ex x true, .int .i64 m] [cmp false, cmp true, cmp true, cmp e]) (tmR n 0 (ofN (whQ m n x true ex)) e) [(whL x true ex, e), (decide (whQ m n x true ex < 2 ^ 256), true), (okTm x (clp ex) 0, true), (ex == 0, true), (decide (ex > 0), false)] := ⟨by kernel_rfl, by kernel_rfl, by kernel_rfl, by kernel_rfl⟩
theorem wh4 (n b e : Bool) (x : W4) (ex m : Int) : Fits (reckon (tabOf Try.prog extY conTi true) 300 13 [vN n ex x b, .int .i64 m] [cmp false, cmp false, cmp true, cmp e]) (tmR n 0 (ofN (whQ m n x b ex)) e) [(whL x b ex, e), (decide (whQ m n x b ex < 2 ^ 256), true), (okTm x (clp ex) 0, true), (ex == 0, false), (decide (ex > 0), false)] := ⟨by kernel_rfl, by kernel_rfl, by kernel_rfl, by kernel_rfl⟩
theorem wh5 (n : Bool) (x : W4) (ex m : Int) : Fits (reckon (tabOf Try.prog extY conTi true) 300 13 [vN n ex x true, .int .i64 m] [cmp false, cmp true, cmp false]) (tmR n 1 w63 (whL x true ex)) [(decide (whQ m n x true ex < 2 ^ 256), false), (decide (clp ex ≤ 0), true), (okTm x (clp ex) 0, true), (ex == 0, true), (decide (ex > 0), false)] := ⟨by kernel_rfl, by kernel_rfl, by kernel_rfl, by kernel_rfl⟩
theorem wh6 (n b : Bool) (x : W4) (ex m : Int) : Fits (reckon (tabOf Try.prog extY conTi true) 300 13 [vN n ex x b, .int .i64 m] [cmp false, cmp false, cmp false]) (tmR n 1 w63 (whL x b ex)) [(decide (whQ m n x b ex < 2 ^ 256), false), (decide (clp ex ≤ 0), true), (okTm x (clp ex) 0, true), (ex == 0, false), (decide (ex > 0), false)] := ⟨by kernel_rfl, by kernel_rfl, by kernel_rfl, by kernel_rfl⟩
/-- it stays as it is -/
def early (ex : Int) (b : Bool) : Bool := decide (0 < ex) || (decide (ex = 0) && !b)
def gWh : Ans := fun vals s =>
  match vals with
  | [v, .int .i64 m] =>
    match n7 v, s with
    | some (n, ex, x, b), .inr (.inr (.inr (.inl true))) :: s' => some (whX n ex x b, s', [(early ex b, true)])
    | some (n, ex, x, b), .inr (.inr (.inr (.inl false))) :: .inr (.inr (.inr (.inl true))) :: .inr (.inr (.inr (.inl e))) :: s' => some (tmR n 0 (ofN (whQ m n x b ex)) e, s', [(whL x b ex, e), (decide (whQ m n x b ex < 2 ^ 256), true), (early ex b, false), (decide x.ok, true)])
    | some (n, ex, x, b), .inr (.inr (.inr (.inl false))) :: .inr (.inr (.inr (.inl false))) :: .inr (.inr (.inr (.inl e))) :: s' => some (tmR n 1 w63 e, s', [(whL x b ex, e), (decide (whQ m n x b ex < 2 ^ 256), false), (early ex b, false), (decide x.ok, true)])
    | _, _ => none
  | _ => none
theorem not_early {ex : Int} {b : Bool} (h : early ex b = false) : ¬ 0 < ex ∧ (ex = 0 → b = true) := by
  unfold early at h
  simp only [Bool.or_eq_false_iff, decide_eq_false_iff_not, Bool.and_eq_false_iff, Bool.not_eq_false'] at h
  exact ⟨h.1, fun h0 => h.2.resolve_left (fun hn => hn h0)⟩
theorem gWh_ok : AnsOk 13 gWh := by
  intro vals s v s' lg h hl w
  unfold gWh at h
  split at h
  · rename_i v0 m
    split at h
    · rename_i n ex x b s2 hn
      cases h
      have h1 := hl _ (List.mem_singleton.2 rfl)
      rw [n7_spec hn]
      unfold early at h1
      simp only [Bool.or_eq_true, decide_eq_true_eq, Bool.and_eq_true, Bool.not_eq_true'] at h1
      by_cases h0 : 0 < ex
      · exact fits_calls (tabY_ok conTi_ok) (wh1 n b x ex m) (okL1 (decide_eq_true h0)) (by rfl) (by rfl) w
      · rcases h1 with h1 | ⟨h1, h2⟩
        · exact absurd h1 h0
        · subst h2
          exact fits_calls (tabY_ok conTi_ok) (wh2 n x ex m) (okCons (by rw [h1]; rfl) (okL1 (decide_eq_false h0))) (by rfl) (by rfl) w
    · rename_i n ex x b e s2 hn
      cases h
      rw [okCs, okCs, okCs, okCs] at hl
      obtain ⟨l1, l2, l3, l4, _⟩ := hl
      have hx := of_decide_eq_true l4
      obtain ⟨n1, n2⟩ := not_early l3
      have hc := clp_bd ex
      have kt : okTm x (clp ex) 0 = true := decide_eq_true ⟨hx, by omega, by omega, by omega, by omega⟩
      rw [n7_spec hn]
      by_cases h0 : ex = 0
      · have hb := n2 h0
        subst hb
        exact fits_calls (tabY_ok conTi_ok) (wh3 n e x ex m) (okCons l1 (okCons l2 (okCons kt (okCons (by rw [h0]; rfl) (okL1 (decide_eq_false n1)))))) (by rfl) (by rfl) w
      · exact fits_calls (tabY_ok conTi_ok) (wh4 n b e x ex m) (okCons l1 (okCons l2 (okCons kt (okCons (by simp [h0]) (okL1 (decide_eq_false n1)))))) (by rfl) (by rfl) w
    · rename_i n ex x b e s2 hn
      cases h
      rw [okCs, okCs, okCs, okCs] at hl
      obtain ⟨l1, l2, l3, l4, _⟩ := hl
      have hx := of_decide_eq_true l4
      obtain ⟨n1, n2⟩ := not_early l3
      have hc := clp_bd ex
      have hc0 : clp ex ≤ 0 := by unfold clp; split <;> split <;> omega
      have kt : okTm x (clp ex) 0 = true := decide_eq_true ⟨hx, by omega, by omega, by omega, by omega⟩
      rw [n7_spec hn, ← l1]
      by_cases h0 : ex = 0
      · have hb := n2 h0
        subst hb
        exact fits_calls (tabY_ok conTi_ok) (wh5 n x ex m) (okCons l2 (okCons (decide_eq_true hc0) (okCons kt (okCons (by rw [h0]; rfl) (okL1 (decide_eq_false n1)))))) (by rfl) (by rfl) w
      · exact fits_calls (tabY_ok conTi_ok) (wh6 n b x ex m) (okCons l2 (okCons (decide_eq_true hc0) (okCons kt (okCons (by simp [h0]) (okL1 (decide_eq_false n1)))))) (by rfl) (by rfl) w
    · cases h
  · cases h
end Go.Proofs.Ytppbpbiibibiiaa

/-
  Layer 4's own 'sure'; what is known of calls, for the laws of rounding.
-/
namespace Go.Proofs.Ytppbpbiibibiiaa
open Go.KRun Go.Wd Go.Pt Go.Rn
set_option maxRecDepth 100000

theorem sure_fits : Fits (reckon (tabOf Try.prog extC conN false) 4000 12 [] []) (.bool true) [] := ⟨by kernel_rfl, by kernel_rfl, by kernel_rfl, by kernel_rfl⟩
def gSure : Ans := fun vals s => match vals with | [] => some (.bool true, s, []) | _ => none
theorem gSure_ok : AnsOk 12 gSure := by
  intro vals s v s' lg h hl w
  unfold gSure at h
  split at h
  · cases h
    exact fits_calls (tabC_ok conN_ok) sure_fits (fun x hx => by cases hx) (by rfl) (by rfl) w
  · cases h
def conR : Con := alt 8 gRd (alt 12 gSure conN)
theorem conR_ok : ConOk conR := alt_ok Try.func8 rfl gRd_ok (alt_ok Try.func12 rfl gSure_ok conN_ok)
end Go.Proofs.Ytppbpbiibibiiaa

/-
  What the laws of rounding ask, in plain terms.
-/
namespace Go.Proofs.Ytppbpbiibibiiaa
open Go.KRun Go.Wd Go.Pt Go.Rn

def f16 (f : Int) : Int := IntKind.u8.wrap ((BitVec.ofInt IntKind.u8.bits f &&& BitVec.ofInt IntKind.u8.bits 16).toNat : Nat)
theorem f16_0 : f16 0 = 0 := by decide
theorem f16_in {f : Int} (h : f = 16 ∨ f = 20 ∨ f = 24) : (f16 f == 0) = false := by
  rcases h with rfl | rfl | rfl <;> decide
theorem sS_inj {n : Bool} {p q : Int} : sS n p = sS n q ↔ p = q := by unfold sS; split <;> omega
theorem sS_U {n : Bool} {p : Int} (h : 0 ≤ p ∧ p ≤ 9218868437227405312) : U (sS n p) := by unfold sS U; split <;> omega
theorem bXor_sS {n : Bool} {p : Int} (h : 0 ≤ p ∧ p ≤ 9218868437227405312) : bXor (sS (!n) p) 9223372036854775808 = sS n p := by
  rw [bXor_sign (sS_U h)]
  cases n <;> simp [sS] <;> omega
theorem bNot_sS {n : Bool} {p : Int} (h : 0 ≤ p ∧ p ≤ 9218868437227405312) : bNot (sS n p) 9223372036854775808 = p := by
  rw [bNot_sign (sS_U h)]
  cases n <;> simp [sS] <;> omega
theorem w4_ok {a b c d : Int} (ka : (Lit.int .u64 a).wf = true) (kb : (Lit.int .u64 b).wf = true) (kc : (Lit.int .u64 c).wf = true) (kd : (Lit.int .u64 d).wf = true) (h : ∀ {z : Int}, (Lit.int .u64 z).wf = true → U z) : (⟨a, b, c, d⟩ : W4).ok := ⟨h ka, h kb, h kc, h kd⟩
end Go.Proofs.Ytppbpbiibibiiaa
