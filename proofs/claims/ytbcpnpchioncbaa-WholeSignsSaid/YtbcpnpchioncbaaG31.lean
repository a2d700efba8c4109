/-
  rnd.Whole, as a call in every world.
-/
import Derived.Test.YtbcpnpchioncbaaG13
import Derived.Test.YtbcpnpchioncbaaG19
namespace Go.Proofs.Ytbcpnpchioncbaa
open Go.KRun Go.Wd Go.Pt Go.Rn
set_option maxRecDepth 100000

def whX (n : Bool) (ex : Int) (x : W4) (b : Bool) : Value := .tuple #[vN n ex x b, .bool false]
theorem wh1 (n b : Bool) (x : W4) (ex m : Int) : Fits (reckon (tabOf Try.prog extY conTi true) 300 33 [vN n ex x b, .int .i64 m] [cmp true]) (whX n ex x b) [(decide (ex > 0), true)] := ⟨by kernel_rfl, by kernel_rfl, by kernel_rfl, by kernel_rfl⟩
theorem wh2 (n : Bool) (x : W4) (ex m : Int) : Fits (reckon (tabOf Try.prog extY conTi true) 300 33 [vN n ex x false, .int .i64 m] [cmp false, cmp true]) (whX n ex x false) [(ex == 0, true), (decide (ex > 0), false)] := ⟨by kernel_rfl, by kernel_rfl, by kernel_rfl, by kernel_rfl⟩
def whQ (m : Int) (n : Bool) (x : W4) (b : Bool) (ex : Int) : Nat := toQ m n (tw x b) (clp ex - 1) 0
def whL (x : W4) (b : Bool) (ex : Int) : Bool := toL (tw x b) (clp ex - 1) 0
theorem wh3 (n e : Bool) (x : W4) (ex m : Int) : Fits (reckon (tabOf Try.prog extY conTi true) 300 33 [vN n ex x true, .int .i64 m] [cmp false, cmp true, cmp true, cmp e]) (tmR n 0 (ofN (whQ m n x true ex)) e) [(whL x true ex, e), (decide (whQ m n x true ex < 2 ^ 256), true), (okTm x (clp ex) 0, true), (ex == 0, true), (decide (ex > 0), false)] := ⟨by kernel_rfl, by kernel_rfl, by kernel_rfl, by kernel_rfl⟩
theorem wh4 (n b e : Bool) (x : W4) (ex m : Int) : Fits (reckon (tabOf Try.prog extY conTi true) 300 33 [vN n ex x b, .int .i64 m] [cmp false, cmp false, cmp true, cmp e]) (tmR n 0 (ofN (whQ m n x b ex)) e) [(whL x b ex, e), (decide (whQ m n x b ex < 2 ^ 256), true), (okTm x (clp ex) 0, true), (ex == 0, false), (decide (ex > 0), false)] := ⟨by kernel_rfl, by kernel_rfl, by kernel_rfl, by kernel_rfl⟩
theorem wh5 (n : Bool) (x : W4) (ex m : Int) : Fits (reckon (tabOf Try.prog extY conTi true) 300 33 [vN n ex x true, .int .i64 m] [cmp false, cmp true, cmp false]) (tmR n 1 w63 (whL x true ex)) [(decide (whQ m n x true ex < 2 ^ 256), false), (decide (clp ex ≤ 0), true), (okTm x (clp ex) 0, true), (ex == 0, true), (decide (ex > 0), false)] := ⟨by kernel_rfl, by kernel_rfl, by kernel_rfl, by kernel_rfl⟩
theorem wh6 (n b : Bool) (x : W4) (ex m : Int) : Fits (reckon (tabOf Try.prog extY conTi true) 300 33 [vN n ex x b, .int .i64 m] [cmp false, cmp false, cmp false]) (tmR n 1 w63 (whL x b ex)) [(decide (whQ m n x b ex < 2 ^ 256), false), (decide (clp ex ≤ 0), true), (okTm x (clp ex) 0, true), (ex == 0, false), (decide (ex > 0), false)] := ⟨by kernel_rfl, by kernel_rfl, by kernel_rfl, by kernel_rfl⟩
/-- it stays as it is -/
def early (ex : Int) (b : Bool) : Bool := decide (0 < ex) || (decide (ex = 0) && !b)
def gWh : Ans := fun vals s =>
  match vals with
  | [v, .int .i64 m] =>
    match n7 v, s with
    | some (n, ex, x, b), .inr (.inr (.inr (.inl true))) :: s' => some (whX n ex x b, s', [(early ex b, true)])
    | some (n, ex, x, b), .inr (.inr (.inr (.inl false))) :: .inr (.inr (.inr (.inl true))) :: .inr (.inr (.inr (.inl e))) :: s' => some (tmR n 0 (ofN (whQ m n x b ex)) e, s', [(whL x b ex, e), (decide (whQ m n x b ex < 2 ^ 256), true), (early ex b, false), (decide x.ok, true)])
    | some (n, ex, x, b), .inr (.inr (.inr (.inl false))) :: .inr (.inr (.inr (.inl false))) :: .inr (.inr (.inr (.inl e))) :: s' => some (tmR n 1 w63 e, s', [(whL x b ex, e), (decide (whQ m n x b ex < 2 ^ 256), false), (early ex b, false), (decide x.ok, true)])
    | _, _ => none
  | _ => none
theorem not_early {ex : Int} {b : Bool} (h : early ex b = false) : ¬ 0 < ex ∧ (ex = 0 → b = true) := by
  unfold early at h
  simp only [Bool.or_eq_false_iff, decide_eq_false_iff_not, Bool.and_eq_false_iff, Bool.not_eq_false'] at h
  exact ⟨h.1, fun h0 => h.2.resolve_left (fun hn => hn h0)⟩
theorem gWh_ok : AnsOk 33 gWh := by
  intro vals s v s' lg h hl w
  unfold gWh at h
  split at h
  · rename_i v0 m
    split at h
    · rename_i n ex x b s2 hn
      cases h
      have h1 := hl _ (List.mem_singleton.2 rfl)
      rw [n7_spec hn]
      unfold early at h1
      simp only [Bool.or_eq_true, decide_eq_true_eq, Bool.and_eq_true, Bool.not_eq_true'] at h1
      by_cases h0 : 0 < ex
      · exact fits_calls (tabY_ok conTi_ok) (wh1 n b x ex m) (okL1 (decide_eq_true h0)) (by rfl) (by rfl) w
      · rcases h1 with h1 | ⟨h1, h2⟩
        · exact absurd h1 h0
        · subst h2
          exact fits_calls (tabY_ok conTi_ok) (wh2 n x ex m) (okCons (by rw [h1]; rfl) (okL1 (decide_eq_false h0))) (by rfl) (by rfl) w
    · rename_i n ex x b e s2 hn
      cases h
      rw [okCs, okCs, okCs, okCs] at hl
      obtain ⟨l1, l2, l3, l4, _⟩ := hl
      have hx := of_decide_eq_true l4
      obtain ⟨n1, n2⟩ := not_early l3
      have hc := clp_bd ex
      have kt : okTm x (clp ex) 0 = true := decide_eq_true ⟨hx, by omega, by omega, by omega, by omega⟩
      rw [n7_spec hn]
      by_cases h0 : ex = 0
      · have hb := n2 h0
        subst hb
        exact fits_calls (tabY_ok conTi_ok) (wh3 n e x ex m) (okCons l1 (okCons l2 (okCons kt (okCons (by rw [h0]; rfl) (okL1 (decide_eq_false n1)))))) (by rfl) (by rfl) w
      · exact fits_calls (tabY_ok conTi_ok) (wh4 n b e x ex m) (okCons l1 (okCons l2 (okCons kt (okCons (by simp [h0]) (okL1 (decide_eq_false n1)))))) (by rfl) (by rfl) w
    · rename_i n ex x b e s2 hn
      cases h
      rw [okCs, okCs, okCs, okCs] at hl
      obtain ⟨l1, l2, l3, l4, _⟩ := hl
      have hx := of_decide_eq_true l4
      obtain ⟨n1, n2⟩ := not_early l3
      have hc := clp_bd ex
      have hc0 : clp ex ≤ 0 := by unfold clp; split <;> split <;> omega
      have kt : okTm x (clp ex) 0 = true := decide_eq_true ⟨hx, by omega, by omega, by omega, by omega⟩
      rw [n7_spec hn, ← l1]
      by_cases h0 : ex = 0
      · have hb := n2 h0
        subst hb
        exact fits_calls (tabY_ok conTi_ok) (wh5 n x ex m) (okCons l2 (okCons (decide_eq_true hc0) (okCons kt (okCons (by rw [h0]; rfl) (okL1 (decide_eq_false n1)))))) (by rfl) (by rfl) w
      · exact fits_calls (tabY_ok conTi_ok) (wh6 n b x ex m) (okCons l2 (okCons (decide_eq_true hc0) (okCons kt (okCons (by simp [h0]) (okL1 (decide_eq_false n1)))))) (by rfl) (by rfl) w
    · cases h
  · cases h
end Go.Proofs.Ytbcpnpchioncbaa

/-
  PLAIN ARITHMETIC: products of patterns' numbers, and with a third one added, rounded; what rounding a product left.
-/
namespace Go.Rn
open Go.Nt Go.Wd Go.Pt

/-- a product's sign, size and power -/
def prN (a b : Int) : Bool := sgn a != sgn b
def prV (a b : Int) : Nat := (sg a).toNat * (sg b).toNat
def prE (a b : Int) : Int := xp a + xp b
theorem prN_comm (a b : Int) : prN a b = prN b a := by unfold prN; cases sgn a <;> cases sgn b <;> rfl
theorem prV_comm (a b : Int) : prV a b = prV b a := Nat.mul_comm _ _
theorem prE_comm (a b : Int) : prE a b = prE b a := by unfold prE; omega
theorem prE_bd (a b : Int) : -2148 ≤ prE a b ∧ prE a b ≤ 1944 := by
  have h1 := xp_bd a
  have h2 := xp_bd b
  unfold prE
  omega
theorem prV_lt (a b : Int) : prV a b < 81129638414606681695789005144064 := by
  have h1 := sg_lt a
  have h2 := sg_lt b
  have := Nat.mul_le_mul (show (sg a).toNat ≤ 9007199254740991 by omega) (show (sg b).toNat ≤ 9007199254740991 by omega)
  unfold prV
  omega
theorem may_prod (a b : Int) : May (prE a b) (prV a b) := by
  have h1 := prE_bd a b
  have h2 := prV_lt a b
  refine ⟨?_, by omega, by omega⟩
  have : (2 : Nat) ^ 128 = 340282366920938463463374607431768211456 := rfl
  omega
/-- the product, rounded -/
def mlP (m a b : Int) : Int := rnP m (prN a b) (prV a b) (prE a b)
def mlF (m a b : Int) : Int := rnF m (prN a b) (prV a b) (prE a b)
theorem ml_comm (m a b : Int) : mlP m a b = mlP m b a ∧ mlF m a b = mlF m b a := by
  unfold mlP mlF
  rw [prN_comm, prV_comm, prE_comm]
  exact ⟨rfl, rfl⟩
theorem ml_bd (m a b : Int) : 0 ≤ mlP m a b ∧ mlP m a b ≤ 9218868437227405312 := rnP_bd _ _ _ _
/-- the product and a third number, in units of 2^-2148; its sign; rounded -/
def fsI (a b c : Int) : Int := smI (-2148) (prN a b) (prE a b) (prV a b) (sgn c) (xp c) (sg c).toNat
def fsN (m a b c : Int) : Bool := sgS m (prN a b) (sgn c) (fsI a b c)
def fsP (m a b c : Int) : Int := rnP m (fsN m a b c) (fsI a b c).natAbs (-2148)
def fsF (m a b c : Int) : Int := rnF m (fsN m a b c) (fsI a b c).natAbs (-2148)
theorem fsI_comm (a b c : Int) : fsI a b c = fsI b a c := by unfold fsI; rw [prN_comm, prV_comm, prE_comm]
theorem fsN_comm (m a b c : Int) : fsN m a b c = fsN m b a c := by unfold fsN; rw [fsI_comm, prN_comm]
theorem fs_comm (m a b c : Int) : fsP m a b c = fsP m b a c ∧ fsF m a b c = fsF m b a c := by
  unfold fsP fsF
  rw [fsN_comm, fsI_comm]
  exact ⟨rfl, rfl⟩
theorem fs_bd (m a b c : Int) : 0 ≤ fsP m a b c ∧ fsP m a b c ≤ 9218868437227405312 := rnP_bd _ _ _ _

/-! ### with nothing added -/
theorem szF_zero (F E : Int) : szF F E 0 = 0 := by unfold szF; simp
theorem fs_zero {m a b c : Int} (h0 : sg c = 0) (hs : sgn c = prN a b) : fsN m a b c = prN a b ∧ fsP m a b c = mlP m a b ∧ fsF m a b c = mlF m a b := by
  have hE := prE_bd a b
  have e0 : fsI a b c = sgI (prN a b) (szF (-2148) (prE a b) (prV a b)) := by
    unfold fsI smI
    rw [h0, Int.toNat_zero, szF_zero]
    cases sgn c <;> simp [sgI]
  have ea : (fsI a b c).natAbs = szF (-2148) (prE a b) (prV a b) := by rw [e0]; exact sgI_abs _ _
  have hn : fsN m a b c = prN a b := by
    unfold fsN sgS
    by_cases hz : fsI a b c = 0
    · rw [if_pos hz, hs, if_pos rfl]
    · rw [if_neg hz, e0]
      refine (sgI_neg fun h => hz ?_).1
      rw [e0, h]
      cases prN a b <;> rfl
  have sp := rnP_scale m (prN a b) (prV a b) (prE a b - -2148).toNat (prE a b)
  have sf := rnF_scale m (prN a b) (prV a b) (prE a b - -2148).toNat (prE a b)
  have eE : prE a b - ((prE a b - -2148).toNat : Int) = -2148 := by omega
  rw [eE] at sp sf
  refine ⟨hn, ?_, ?_⟩
  · unfold fsP mlP; rw [hn, ea]; exact sp
  · unfold fsF mlF; rw [hn, ea]; exact sf

/-! ### times 1 -/
theorem one_num : sgn 4607182418800017408 = false ∧ xp 4607182418800017408 = -52 ∧ sg 4607182418800017408 = 4503599627370496 := by decide
theorem ml_one {m a : Int} (hf : ex a ≠ 2047) : prN a 4607182418800017408 = sgn a ∧ mlP m a 4607182418800017408 = mag a ∧ mlF m a 4607182418800017408 = 0 := by
  obtain ⟨o1, o2, o3⟩ := one_num
  have hn : prN a 4607182418800017408 = sgn a := by unfold prN; rw [o1]; cases sgn a <;> rfl
  have hv : prV a 4607182418800017408 = (sg a).toNat * 2 ^ 52 := by unfold prV; rw [o3]; rfl
  have he : prE a 4607182418800017408 = xp a - ((52 : Nat) : Int) := by unfold prE; rw [o2]; omega
  obtain ⟨q1, q2⟩ := own_pat (m := m) (neg := sgn a) hf
  unfold mlP mlF
  rw [hn, hv, he, rnP_scale, rnF_scale, q1, q2]
  exact ⟨rfl, rfl, rfl⟩

/-! ### the other sign -/
theorem prN_ng {a : Int} (ha : U a) (b : Int) : prN (ng a) b = !prN a b := by
  unfold prN
  rw [(ng_parts ha).2.1]
  cases sgn a <;> cases sgn b <;> rfl
theorem ml_ng {m a : Int} (ha : U a) (b : Int) : mlP (swM m) (ng a) b = mlP m a b ∧ mlF (swM m) (ng a) b = mlF m a b := by
  obtain ⟨e1, e2, _⟩ := ng_num ha
  unfold mlP mlF
  have eV : prV (ng a) b = prV a b := by unfold prV; rw [e2]
  have eE : prE (ng a) b = prE a b := by unfold prE; rw [e1]
  rw [prN_ng ha, eV, eE, rnP_swM, rnF_swM]
  exact ⟨rfl, rfl⟩
theorem ml_ng2 {m a b : Int} (ha : U a) (hb : U b) : prN (ng a) (ng b) = prN a b ∧ mlP m (ng a) (ng b) = mlP m a b ∧ mlF m (ng a) (ng b) = mlF m a b := by
  obtain ⟨e1, e2, _⟩ := ng_num ha
  obtain ⟨f1, f2, _⟩ := ng_num hb
  have eN : prN (ng a) (ng b) = prN a b := by rw [prN_ng ha, prN_comm, prN_ng hb, Bool.not_not, prN_comm]
  have eV : prV (ng a) (ng b) = prV a b := by unfold prV; rw [e2, f2]
  have eE : prE (ng a) (ng b) = prE a b := by unfold prE; rw [e1, f1]
  unfold mlP mlF
  rw [eN, eV, eE]
  exact ⟨rfl, rfl, rfl⟩

/-! ### a pattern that was rounded, as a number -/
theorem pat_num {e : Int} {q : Nat} (he : -1074 ≤ e) (hq : q ≤ 9007199254740992) (hlo : e = -1074 ∨ 4503599627370496 ≤ q) (hb : (e + 1074) * 4503599627370496 + (q : Int) < 9218868437227405312) :
    uV ((e + 1074) * 4503599627370496 + (q : Int)) = q * 2 ^ (e + 1074).toNat := by
  obtain ⟨j, hj⟩ : ∃ j : Nat, e = (j : Int) - 1074 := ⟨(e + 1074).toNat, by omega⟩
  have ej : (e + 1074).toNat = j := by omega
  have ej' : e + 1074 = (j : Int) := by omega
  rw [ej, ej']
  rw [ej'] at hb
  clear ej ej'
  unfold uV szF xp sg
  by_cases c0 : q < 4503599627370496
  · have j0 : j = 0 := by omega
    subst j0
    have ee : ex (((0 : Nat) : Int) * 4503599627370496 + (q : Int)) = 0 := by unfold ex; omega
    have ef : fr (((0 : Nat) : Int) * 4503599627370496 + (q : Int)) = (q : Int) := by unfold fr; omega
    rw [ee, ef]
    simp
  · by_cases c1 : q = 9007199254740992
    · have ee : ex ((j : Int) * 4503599627370496 + (q : Int)) = (j : Int) + 2 := by unfold ex; omega
      have ef : fr ((j : Int) * 4503599627370496 + (q : Int)) = 0 := by unfold fr; omega
      rw [ee, ef, if_neg (by omega), if_neg (by omega), if_neg (by omega), if_neg (by omega)]
      have e1 : ((j : Int) + 2 - 1075 - -1074).toNat = j + 1 := by omega
      rw [e1, c1, Nat.pow_succ]
      have e2 : ((0 : Int) + 4503599627370496).toNat = 4503599627370496 := rfl
      rw [e2]
      omega
    · have ee : ex ((j : Int) * 4503599627370496 + (q : Int)) = (j : Int) + 1 := by unfold ex; omega
      have ef : fr ((j : Int) * 4503599627370496 + (q : Int)) = (q : Int) - 4503599627370496 := by unfold fr; omega
      rw [ee, ef, if_neg (by omega), if_neg (by omega), if_neg (by omega), if_neg (by omega)]
      have e1 : ((j : Int) + 1 - 1075 - -1074).toNat = j := by omega
      have e2 : ((q : Int) - 4503599627370496 + 4503599627370496).toNat = q := by omega
      rw [e1, e2]
/-- what was rounded, and is finite -/
theorem rn_num {m : Int} {n : Bool} {T : Nat} {E : Int} (hT : T ≠ 0) (h : rnF m n T E = 0 ∨ rnF m n T E = 16 ∨ rnF m n T E = 24) :
    p0 m n T E < 9218868437227405312 ∧ rnP m n T E = p0 m n T E ∧ uV (rnP m n T E) = toQ m n T E (lowE T E) * 2 ^ (lowE T E + 1074).toNat ∧ (rnF m n T E = 0 ↔ toL T E (lowE T E) = false) := by
  have hb : p0 m n T E < 9218868437227405312 := by
    unfold rnF at h
    rw [if_neg hT] at h
    by_cases hc : 9218868437227405312 ≤ p0 m n T E
    · rw [if_pos hc] at h; omega
    · omega
  have hp : rnP m n T E = p0 m n T E := by unfold rnP; rw [if_neg hT, if_neg (by omega)]
  have hlo : lowE T E = -1074 ∨ 4503599627370496 ≤ toQ m n T E (lowE T E) := by
    by_cases h1 : lowE T E = -1074
    · exact .inl h1
    · right
      refine low_lo hT ?_
      unfold lowE at h1
      split at h1 <;> omega
  refine ⟨hb, hp, ?_, ?_⟩
  · rw [hp]
    exact pat_num (lowE_ge T E) (low_hi m n T E) hlo hb
  · unfold rnF
    rw [if_neg hT, if_neg (by omega)]
    cases toL T E (lowE T E) with
    | false => simp
    | true =>
      rw [if_pos rfl]
      split <;> simp

/-! ### what rounding to the nearest left -/
theorem rest_half (n : Bool) (T k : Nat) : (T : Int) - (rq 0 n T k : Int) * (2 ^ k : Nat) ≤ (2 ^ k : Nat) / 2 ∧ (rq 0 n T k : Int) * (2 ^ k : Nat) - (T : Int) ≤ (2 ^ k : Nat) / 2 := by
  have hd := Nat.div_add_mod T (2 ^ k)
  have hp : 0 < 2 ^ k := Nat.pow_pos (by omega)
  have hm := Nat.mod_lt T hp
  unfold rq upR restC
  generalize T / 2 ^ k = q at *
  generalize T % 2 ^ k = r at *
  generalize 2 ^ k = P at *
  have e1 : ((q + 1 : Nat) : Int) * (P : Int) = (P : Int) * q + P := by rw [Int.natCast_add, Int.add_mul]; simp [Int.mul_comm]
  have e0 : ((q + 0 : Nat) : Int) * (P : Int) = (P : Int) * q := by rw [Nat.add_zero, Int.mul_comm]
  have hd' : (P : Int) * q + r = T := by rw [← hd]; simp
  by_cases h0 : r = 0
  · simp only [h0, if_true, Bool.false_eq_true, if_false]
    rw [e0]
    omega
  · by_cases h1 : 2 * r < P
    · simp [h0, h1]
      rw [Int.mul_comm]
      omega
    · by_cases h2 : 2 * r = P
      · by_cases ho : odd q = true
        · simp [h0, h2, ho]
          rw [Int.add_mul, Int.mul_comm]
          omega
        · simp [h0, h2, ho]
          rw [Int.mul_comm]
          omega
      · simp [h0, h1, h2]
        rw [Int.add_mul, Int.mul_comm]
        omega
/-- few bits need no rounding -/
theorem few_bits {m k : Int} {n s : Bool} {D A : Nat} {E : Int} (hE : -1074 ≤ E) (hD : D < 9007199254740992) (hDA : D ≤ A) (hA : p0 k s A E < 9218868437227405312) : rnF m n D E = 0 := by
  by_cases h0 : D = 0
  · rw [h0]; simp [rnF]
  · have hlow : lowE D E ≤ E := by
      have := len_le (T := D) (k := 53) (by have : (2 : Nat) ^ 53 = 9007199254740992 := rfl; omega)
      unfold lowE lgN
      split <;> omega
    have hl : toL D E (lowE D E) = false := by unfold toL; rw [if_pos hlow]
    have hp : p0 m n D E = p0 k s D E := by unfold p0 toQ; rw [if_pos hlow, if_pos hlow]
    have hmo := p0_mono (m := k) (neg := s) (E := E) h0 hDA
    unfold rnF
    rw [if_neg h0, hp, if_neg (by omega), hl]
    simp
/-- both sizes plain: the product, rounded to the nearest, in units of 2^-1074 -/
theorem prod_near {n : Bool} {A : Nat} {E : Int} (hE : -1074 ≤ E) (h0 : 20282409603651670423947251286016 ≤ A) (h1 : A < 81129638414606681695789005144064) (hf : rnF 0 n A E = 0 ∨ rnF 0 n A E = 16) :
    ∃ d : Int, d.natAbs < 9007199254740992 ∧ d.natAbs ≤ A ∧ p0 0 n A E < 9218868437227405312 ∧ ((A * 2 ^ (E + 1074).toNat : Nat) : Int) - (uV (rnP 0 n A E) : Int) = d * (2 ^ (E + 1074).toNat : Nat) ∧ (rnF 0 n A E = 0 ↔ d = 0) := by
  obtain ⟨q1, q2, q3, q4⟩ := rn_num (m := 0) (n := n) (T := A) (E := E) (by omega) (by omega)
  have b1 : 105 ≤ bitLen A := le_len (k := 104) (by have : (2 : Nat) ^ 104 = 20282409603651670423947251286016 := rfl; omega)
  have b2 : bitLen A ≤ 106 := len_le (by have : (2 : Nat) ^ 106 = 81129638414606681695789005144064 := rfl; omega)
  obtain ⟨k, hk⟩ : ∃ k : Nat, k = bitLen A - 53 := ⟨_, rfl⟩
  have hlow : lowE A E = E + k := by unfold lowE lgN; split <;> omega
  have ek : (E + (k : Int) - E).toNat = k := by omega
  have hQ : toQ 0 n A E (lowE A E) = rq 0 n A k := by
    rw [hlow]; unfold toQ; rw [if_neg (by omega), ek]
  have hL : toL A E (lowE A E) = decide (A % 2 ^ k ≠ 0) := by
    rw [hlow]; unfold toL; rw [if_neg (by omega), ek]
  have hP : 2 ^ k ≤ 9007199254740992 := by
    have := Nat.pow_le_pow_right (show 0 < 2 by omega) (show k ≤ 53 by omega)
    have e : (2 : Nat) ^ 53 = 9007199254740992 := rfl
    omega
  have hp : 0 < 2 ^ k := Nat.pow_pos (by omega)
  have hh := rest_half n A k
  refine ⟨(A : Int) - (rq 0 n A k : Int) * (2 ^ k : Nat), by omega, by omega, q1, ?_, ?_⟩
  · have e1 : (lowE A E + 1074).toNat = k + (E + 1074).toNat := by rw [hlow]; omega
    rw [q3, hQ, e1, Nat.pow_add, ← Nat.mul_assoc, Int.sub_mul]
    simp only [Int.natCast_mul]
  · rw [q4, hL]
    constructor
    · intro h
      have hz : A % 2 ^ k = 0 := by simpa using h
      have := Nat.div_add_mod A (2 ^ k)
      rw [rq_exact hz, ← Int.natCast_mul, Nat.mul_comm]
      omega
    · intro h
      have h2 : A = rq 0 n A k * 2 ^ k := by
        have h3 : (A : Int) = ((rq 0 n A k * 2 ^ k : Nat) : Int) := by rw [Int.natCast_mul]; omega
        exact Int.ofNat.inj h3
      rw [h2, Nat.mul_mod_left]
      rfl
/-- the sum in units of 2^-1074, where the product's power allows it -/
theorem fs_scaled {j : Nat} (hj : (j : Int) = 1074) {a b c : Int} (hE : -1074 ≤ prE a b) : fsI a b c = (sgI (prN a b) (prV a b * 2 ^ (prE a b + 1074).toNat) + pvI c) * ((2 ^ j : Nat) : Int) := by
  have hc := xp_bd c
  have e := smI_low (F := -2148) (G := -1074) (Ex := prE a b) (Ey := xp c) (by omega) hE hc.1 (prN a b) (sgn c) (prV a b) (sg c).toNat
  have e1 : ((-1074 : Int) - -2148).toNat = j := by omega
  rw [e1] at e
  unfold fsI
  rw [e]
  congr 1
theorem fs_round {j : Nat} (hj : (j : Int) = 1074) {m a b c : Int} {S : Int} (hS : fsI a b c = S * ((2 ^ j : Nat) : Int)) : fsN m a b c = sgS m (prN a b) (sgn c) S ∧ fsP m a b c = rnP m (fsN m a b c) S.natAbs (-1074) ∧ fsF m a b c = rnF m (fsN m a b c) S.natAbs (-1074) := by
  have hK : 0 < 2 ^ j := Nat.pow_pos (by omega)
  have ea : (fsI a b c).natAbs = S.natAbs * 2 ^ j := by rw [hS, Int.natAbs_mul, Int.natAbs_natCast]
  have eE : (-1074 : Int) - (j : Int) = -2148 := by omega
  have sp := rnP_scale m (fsN m a b c) S.natAbs j (-1074)
  have sf := rnF_scale m (fsN m a b c) S.natAbs j (-1074)
  rw [eE] at sp sf
  refine ⟨?_, ?_, ?_⟩
  · unfold fsN; rw [hS, sgS_mul m _ _ _ hK]
  · rw [← sp]; unfold fsP; rw [ea]
  · rw [← sf]; unfold fsF; rw [ea]
end Go.Rn
