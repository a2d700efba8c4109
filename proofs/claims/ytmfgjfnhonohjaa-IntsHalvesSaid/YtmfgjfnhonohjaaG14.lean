/-
  Contracts of words; a pattern's significand, moved up, and whether it is nothing.
-/
import Derived.Test.YtmfgjfnhonohjaaG13
import Derived.Test.YtmfgjfnhonohjaaG05
import Derived.Test.YtmfgjfnhonohjaaG09
namespace Go.Proofs.Ytmfgjfnhonohjaa
open Go.KRun Go.Wd Go.Pt Go.Rn
set_option maxRecDepth 100000

def nzW (x : W4) : Bool := !(x.a == 0 && (x.b == 0 && (x.c == 0 && (x.d == 0 && true))))
theorem nzW_of {n : Int} (h0 : 0 ≤ n) (h1 : n < 115792089237316195423570985008687907853269984665640564039457584007913129639936) : nzW (W4.of n) = decide (n ≠ 0) := by
  have ev : (W4.of n).val = n := by rw [W4.val_of, Int.emod_eq_of_lt h0 h1]
  have ok := W4.ok_of n
  by_cases hz : n = 0
  · subst hz; rfl
  · rw [decide_eq_true hz]
    unfold nzW
    cases hc : ((W4.of n).a == 0 && ((W4.of n).b == 0 && ((W4.of n).c == 0 && ((W4.of n).d == 0 && true))))
    · rfl
    · exfalso
      simp only [Bool.and_eq_true, beq_iff_eq] at hc
      obtain ⟨e1, e2, e3, e4, _⟩ := hc
      apply hz
      rw [← ev]
      unfold W4.val
      rw [e1, e2, e3, e4]
      rfl
theorem wSg_val (p : Int) : (wSg p).val = sg p := by
  have h := sg_lt p
  rw [W4.nat_val (wSg_ok p), wSg_nat]
  omega
theorem pow_lim {u : Nat} (h : u ≤ 199) : (2 : Int) ^ u ≤ 803469022129495137770981046170581301261101496891396417650688 := by
  have h1 : (2 : Nat) ^ u ≤ 2 ^ 199 := Nat.pow_le_pow_right (by omega) h
  have h2 : (2 : Nat) ^ 199 = 803469022129495137770981046170581301261101496891396417650688 := rfl
  rw [h2] at h1
  have := cast_pow u
  omega
theorem shl_sg (p : Int) {u : Nat} (h0 : 1 ≤ u) (h : u ≤ 199) : (shlW (wSg p) (u : Int)).ok ∧ (shlW (wSg p) (u : Int)).val = (((sg p).toNat * 2 ^ u : Nat) : Int) := by
  have hs := sg_lt p
  have hp := pow_lim h
  have hq : (0 : Int) < 2 ^ u := by rw [cast_pow]; exact_mod_cast Nat.pow_pos (by omega)
  have e : (wSg p).val * 2 ^ u = (((sg p).toNat * 2 ^ u : Nat) : Int) := by
    rw [wSg_val, Int.natCast_mul, ← cast_pow, Int.toNat_of_nonneg hs.1]
  have hb : (((sg p).toNat * 2 ^ u : Nat) : Int) < 115792089237316195423570985008687907853269984665640564039457584007913129639936 := by
    rw [← e, wSg_val]
    have := Int.mul_le_mul (show sg p ≤ 9007199254740991 by omega) hp (by omega) (by omega)
    omega
  unfold shlW
  rw [if_neg (by omega), if_neg (by omega), Int.toNat_natCast, e]
  exact ⟨W4.ok_of _, by rw [W4.val_of, Int.emod_eq_of_lt (by omega) hb]⟩
theorem sg_zero {p : Int} (h : cl p ≤ 2) : sg p = 0 ↔ cl p = 0 := by
  have h3 := fr_lt p
  unfold sg cl at *
  split at h
  · rename_i h1
    rw [if_pos h1]
    split <;> omega
  · rename_i h1
    split at h
    · split at h
      · omega
      · split at h <;> omega
    · rename_i h2
      rw [if_neg h1, if_neg h2]
      omega
end Go.Proofs.Ytmfgjfnhonohjaa

/-
  A pattern's size and sign, in plain terms.
-/
namespace Go.Proofs.Ytmfgjfnhonohjaa
open Go.KRun Go.Wd Go.Pt Go.Rn

theorem sS_mag {n : Bool} {r : Int} (h0 : 0 ≤ r) (h1 : r < 9223372036854775808) : mag (sS n r) = r ∧ sgn (sS n r) = n ∧ U (sS n r) ∧ uV (sS n r) = uV r := by
  have e : ex (sS n r) = ex r ∧ fr (sS n r) = fr r := by unfold ex fr sS; split <;> omega
  refine ⟨by unfold mag sS; split <;> omega, ?_, by unfold U sS; split <;> omega, ?_⟩
  · cases n
    · simp only [sS, Bool.false_eq_true, if_false, sgn]; exact decide_eq_false (by omega)
    · simp only [sS, if_true, sgn]; exact decide_eq_true (by omega)
  · unfold uV xp sg; rw [e.1, e.2]
theorem sS_own {p : Int} (hp : U p) : sS (sgn p) (mag p) = p := by
  unfold sS sgn mag U at *
  split <;> rename_i h <;> simp only [decide_eq_true_eq] at h <;> omega
theorem bXor_ng {p : Int} (hp : U p) : bXor p 9223372036854775808 = ng p := bXor_sign hp
theorem ng_sS {n : Bool} {r : Int} (h0 : 0 ≤ r) (h1 : r < 9223372036854775808) : ng (sS n r) = sS (!n) r := by
  cases n <;> simp [sS, ng] <;> omega
theorem ng_ng {p : Int} (hp : U p) : ng (ng p) = p := by unfold ng U at *; omega
theorem ng_ne {p : Int} (_hp : U p) : p ≠ ng p := by unfold ng; omega
theorem nan_mag : mag 9221120237041090560 = 9221120237041090560 := by decide
end Go.Proofs.Ytmfgjfnhonohjaa

/-
  rnd.Whole, as a call in every world.
-/
namespace Go.Proofs.Ytmfgjfnhonohjaa
open Go.KRun Go.Wd Go.Pt Go.Rn
set_option maxRecDepth 100000

def whX (n : Bool) (ex : Int) (x : W4) (b : Bool) : Value := .tuple #[vN n ex x b, .bool false]
theorem wh1 (n b : Bool) (x : W4) (ex m : Int) : Fits (reckon (tabOf Try.prog extY conTi true) 300 65 [vN n ex x b, .int .i64 m] [cmp true]) (whX n ex x b) [(decide (ex > 0), true)] := ⟨by kernel_rfl, by kernel_rfl, by kernel_rfl, by kernel_rfl⟩
theorem wh2 (n : Bool) (x : W4) (ex m : Int) : Fits (reckon (tabOf Try.prog extY conTi true) 300 65 [vN n ex x false, .int .i64 m] [cmp false, cmp true]) (whX n ex x false) [(ex == 0, true), (decide (ex > 0), false)] := ⟨by kernel_rfl, by kernel_rfl, by kernel_rfl, by kernel_rfl⟩
def whQ (m : Int) (n : Bool) (x : W4) (b : Bool) (ex : Int) : Nat := toQ m n (tw x b) (clp ex - 1) 0
def whL (x : W4) (b : Bool) (ex : Int) : Bool := toL (tw x b) (clp ex - 1) 0
theorem wh3 (n e : Bool) (x : W4) (ex m : Int) : Fits (reckon (tabOf Try.prog extY conTi true) 300 65 [vN n ex x true, .int .i64 m] [cmp false, cmp true, cmp true, cmp e]) (tmR n 0 (ofN (whQ m n x true ex)) e) [(whL x true ex, e), (decide (whQ m n x true ex < 2 ^ 256), true), (okTm x (clp ex) 0, true), (ex == 0, true), (decide (ex > 0), false)] := ⟨by kernel_rfl, by kernel_rfl, by kernel_rfl, by kernel_rfl⟩
theorem wh4 (n b e : Bool) (x : W4) (ex m : Int) : Fits (reckon (tabOf Try.prog extY conTi true) 300 65 [vN n ex x b, .int .i64 m] [cmp false, cmp false, cmp true, cmp e]) (tmR n 0 (ofN (whQ m n x b ex)) e) [(whL x b ex, e), (decide (whQ m n x b ex < 2 ^ 256), true), (okTm x (clp ex) 0, true), (ex == 0, false), (decide (ex > 0), false)] := ⟨by kernel_rfl, by kernel_rfl, by kernel_rfl, by kernel_rfl⟩
theorem wh5 (n : Bool) (x : W4) (ex m : Int) : Fits (reckon (tabOf Try.prog extY conTi true) 300 65 [vN n ex x true, .int .i64 m] [cmp false, cmp true, cmp false]) (tmR n 1 w63 (whL x true ex)) [(decide (whQ m n x true ex < 2 ^ 256), false), (decide (clp ex ≤ 0), true), (okTm x (clp ex) 0, true), (ex == 0, true), (decide (ex > 0), false)] := ⟨by kernel_rfl, by kernel_rfl, by kernel_rfl, by kernel_rfl⟩
theorem wh6 (n b : Bool) (x : W4) (ex m : Int) : Fits (reckon (tabOf Try.prog extY conTi true) 300 65 [vN n ex x b, .int .i64 m] [cmp false, cmp false, cmp false]) (tmR n 1 w63 (whL x b ex)) [(decide (whQ m n x b ex < 2 ^ 256), false), (decide (clp ex ≤ 0), true), (okTm x (clp ex) 0, true), (ex == 0, false), (decide (ex > 0), false)] := ⟨by kernel_rfl, by kernel_rfl, by kernel_rfl, by kernel_rfl⟩
/-- it stays as it is -/
def early (ex : Int) (b : Bool) : Bool := decide (0 < ex) || (decide (ex = 0) && !b)
def gWh : Ans := fun vals s =>
  match vals with
  | [v, .int .i64 m] =>
    match n7 v, s with
    | some (n, ex, x, b), .inr (.inr (.inr (.inl true))) :: s' => some (whX n ex x b, s', [(early ex b, true)])
    | some (n, ex, x, b), .inr (.inr (.inr (.inl false))) :: .inr (.inr (.inr (.inl true))) :: .inr (.inr (.inr (.inl e))) :: s' => some (tmR n 0 (ofN (whQ m n x b ex)) e, s', [(whL x b ex, e), (decide (whQ m n x b ex < 2 ^ 256), true), (early ex b, false), (decide x.ok, true)])
    | some (n, ex, x, b), .inr (.inr (.inr (.inl false))) :: .inr (.inr (.inr (.inl false))) :: .inr (.inr (.inr (.inl e))) :: s' => some (tmR n 1 w63 e, s', [(whL x b ex, e), (decide (whQ m n x b ex < 2 ^ 256), false), (early ex b, false), (decide x.ok, true)])
    | _, _ => none
  | _ => none
theorem not_early {ex : Int} {b : Bool} (h : early ex b = false) : ¬ 0 < ex ∧ (ex = 0 → b = true) := by
  unfold early at h
  simp only [Bool.or_eq_false_iff, decide_eq_false_iff_not, Bool.and_eq_false_iff, Bool.not_eq_false'] at h
  exact ⟨h.1, fun h0 => h.2.resolve_left (fun hn => hn h0)⟩
theorem gWh_ok : AnsOk 65 gWh := by
  intro vals s v s' lg h hl w
  unfold gWh at h
  split at h
  · rename_i v0 m
    split at h
    · rename_i n ex x b s2 hn
      cases h
      have h1 := hl _ (List.mem_singleton.2 rfl)
      rw [n7_spec hn]
      unfold early at h1
      simp only [Bool.or_eq_true, decide_eq_true_eq, Bool.and_eq_true, Bool.not_eq_true'] at h1
      by_cases h0 : 0 < ex
      · exact fits_calls (tabY_ok conTi_ok) (wh1 n b x ex m) (okL1 (decide_eq_true h0)) (by rfl) (by rfl) w
      · rcases h1 with h1 | ⟨h1, h2⟩
        · exact absurd h1 h0
        · subst h2
          exact fits_calls (tabY_ok conTi_ok) (wh2 n x ex m) (okCons (by rw [h1]; rfl) (okL1 (decide_eq_false h0))) (by rfl) (by rfl) w
    · rename_i n ex x b e s2 hn
      cases h
      rw [okCs, okCs, okCs, okCs] at hl
      obtain ⟨l1, l2, l3, l4, _⟩ := hl
      have hx := of_decide_eq_true l4
      obtain ⟨n1, n2⟩ := not_early l3
      have hc := clp_bd ex
      have kt : okTm x (clp ex) 0 = true := decide_eq_true ⟨hx, by omega, by omega, by omega, by omega⟩
      rw [n7_spec hn]
      by_cases h0 : ex = 0
      · have hb := n2 h0
        subst hb
        exact fits_calls (tabY_ok conTi_ok) (wh3 n e x ex m) (okCons l1 (okCons l2 (okCons kt (okCons (by rw [h0]; rfl) (okL1 (decide_eq_false n1)))))) (by rfl) (by rfl) w
      · exact fits_calls (tabY_ok conTi_ok) (wh4 n b e x ex m) (okCons l1 (okCons l2 (okCons kt (okCons (by simp [h0]) (okL1 (decide_eq_false n1)))))) (by rfl) (by rfl) w
    · rename_i n ex x b e s2 hn
      cases h
      rw [okCs, okCs, okCs, okCs] at hl
      obtain ⟨l1, l2, l3, l4, _⟩ := hl
      have hx := of_decide_eq_true l4
      obtain ⟨n1, n2⟩ := not_early l3
      have hc := clp_bd ex
      have hc0 : clp ex ≤ 0 := by unfold clp; split <;> split <;> omega
      have kt : okTm x (clp ex) 0 = true := decide_eq_true ⟨hx, by omega, by omega, by omega, by omega⟩
      rw [n7_spec hn, ← l1]
      by_cases h0 : ex = 0
      · have hb := n2 h0
        subst hb
        exact fits_calls (tabY_ok conTi_ok) (wh5 n x ex m) (okCons l2 (okCons (decide_eq_true hc0) (okCons kt (okCons (by rw [h0]; rfl) (okL1 (decide_eq_false n1)))))) (by rfl) (by rfl) w
      · exact fits_calls (tabY_ok conTi_ok) (wh6 n b x ex m) (okCons l2 (okCons (decide_eq_true hc0) (okCons kt (okCons (by simp [h0]) (okL1 (decide_eq_false n1)))))) (by rfl) (by rfl) w
    · cases h
  · cases h
end Go.Proofs.Ytmfgjfnhonohjaa
