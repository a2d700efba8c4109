/-
  The document's Shl and Cmp of numbers of any size, with what is answered told ahead: the log says that it is right.
-/
import Derived.Test.YtfmfcbnhmkkibaaG14
import Derived.Test.YtfmfcbnhmkkibaaG19
namespace Go.Proofs.Ytfmfcbnhmkkibaa
open Go.KRun Go.Nt
set_option maxRecDepth 100000

theorem log_tlT {x : Bool × Bool} {l : Log} (h : okLog (x :: l)) : x.1 = x.2 ∧ okLog l := ⟨h _ List.mem_cons_self, fun y hy => h y (List.mem_cons_of_mem _ hy)⟩
def okSh (h : Hp) (p : Option Addr) (n c : Nat) (k : Int) : Bool := rowP h p n c && dgB (rowOf h p n) && Nat.blt (k.toNat / 16 + n + 3) 1073741824 && decide (0 ≤ k)
def gUshlT : AnsH := fun vals h s =>
  match vals, s with
  | [.slice p n c, .int .i64 k], .inr (.inr (.inr (.inl d))) :: s' =>
    match d, s' with
    | true, .inr (.inl V) :: s2 => mk16 V.toNat h s2 [(decide (vO h p n * 2 ^ k.toNat = V.toNat), true), (okSh h p n c k, true), (decide (0 < n), true)]
    | false, _ => some (nilS, h, s', [(rowP h p n c, true), (decide (0 < n), false)])
    | _, _ => none
  | _, _ => none
theorem gUshlT_ok : AnsHOk 44 gUshlT := by
  intro vals h s v h' s' lg hg hl
  unfold gUshlT at hg
  split at hg
  · rename_i p n c k d s2
    split at hg
    · rename_i V s3
      unfold mk16 at hg
      cases hg
      obtain ⟨l1, l2⟩ := log_tlT hl
      have l1 := of_decide_eq_true l1
      refine gUshl_ok _ h [cmp true] _ _ [] _ ?_ l2
      simp only [gUshl, mk16, l1]
      rfl
    · cases hg
      exact gUshl_ok _ h [cmp false] _ _ [] _ rfl hl
    · cases hg
  · cases hg
def gUcmpT : AnsH := fun vals h s =>
  match vals, s with
  | [.slice p n c, .slice q n' c'], .inr (.inl k) :: s' => some (.int .i64 k, h, s', [(decide (cmpZ (vO h p n) (vO h q n') = k), true), (two16 h p q n c n' c', true)])
  | _, _ => none
theorem gUcmpT_ok : AnsHOk 43 gUcmpT := by
  intro vals h s v h' s' lg hg hl
  unfold gUcmpT at hg
  split at hg
  · rename_i p n c q n' c' V s3
    cases hg
    obtain ⟨l1, l2⟩ := log_tlT hl
    have l1 := of_decide_eq_true l1
    refine gUcmp_ok _ h [] _ _ [] _ ?_ l2
    simp only [gUcmp, l1]
  · cases hg
/-! ### what is asked of a row that is the number V -/
section
variable {h : Hp} {b b' V W : Nat}
def L16 (V : Nat) : Nat := (d16 V).length
theorem oSh {k : Nat} (hb : h.blk? b = some (wU (d16 V), tU)) (hl : (d16 V).length < 100000) (hk : k < 100000) : okSh h (some ⟨b, 0, none⟩) (d16 V).length (d16 V).length (k : Int) = true := by
  unfold okSh
  rw [rowP_d16 hb (by omega), dgB_d16 hb, blt_iff.2 (by rw [Int.toNat_natCast]; omega), decide_eq_true (by omega)]
  rfl
theorem oTwo (hb : h.blk? b = some (wU (d16 V), tU)) (hc : h.blk? b' = some (wU (d16 W), tU)) (hl : (d16 V).length < 100000) (hm : (d16 W).length < 100000) : two16 h (some ⟨b, 0, none⟩) (some ⟨b', 0, none⟩) (d16 V).length (d16 V).length (d16 W).length (d16 W).length = true := by
  unfold two16
  rw [rowP_d16 hb (by omega), dgB_d16 hb, rowP_d16 hc (by omega), dgB_d16 hc, blt_iff.2 (by omega)]
  rfl
end
/-- a block, by its number -/
def aP16 (b : Nat) : Option Addr := some ⟨b, 0, none⟩
def w16 (X : Nat) : List Value × TypeId := (wU (d16 X), tU)
theorem wU_calm1 (L : List Int) : (wU L).all calm1 = true := by
  unfold wU
  rw [List.all_eq_true]
  intro v hv
  obtain ⟨x, _, rfl⟩ := List.mem_map.1 hv
  rfl
section
variable {h : Hp} {b V : Nat}
theorem vO_aP (hb : h.blk? b = some (wU (d16 V), tU)) : vO h (aP16 b) (d16 V).length = V := vO_d16 hb
theorem d16_iff : 0 < (d16 V).length ↔ 0 < V := by
  unfold d16
  rw [List.length_pos_iff, ne_eq, db_nil (by omega)]
  omega
end
end Go.Proofs.Ytfmfcbnhmkkibaa

/-
  PLAIN ARITHMETIC: products of patterns' numbers, and with a third one added, rounded; what rounding a product left.
-/
namespace Go.Rn
open Go.Nt Go.Wd Go.Pt

/-- a product's sign, size and power -/
def prN (a b : Int) : Bool := sgn a != sgn b
def prV (a b : Int) : Nat := (sg a).toNat * (sg b).toNat
def prE (a b : Int) : Int := xp a + xp b
theorem prN_comm (a b : Int) : prN a b = prN b a := by unfold prN; cases sgn a <;> cases sgn b <;> rfl
theorem prV_comm (a b : Int) : prV a b = prV b a := Nat.mul_comm _ _
theorem prE_comm (a b : Int) : prE a b = prE b a := by unfold prE; omega
theorem prE_bd (a b : Int) : -2148 ≤ prE a b ∧ prE a b ≤ 1944 := by
  have h1 := xp_bd a
  have h2 := xp_bd b
  unfold prE
  omega
theorem prV_lt (a b : Int) : prV a b < 81129638414606681695789005144064 := by
  have h1 := sg_lt a
  have h2 := sg_lt b
  have := Nat.mul_le_mul (show (sg a).toNat ≤ 9007199254740991 by omega) (show (sg b).toNat ≤ 9007199254740991 by omega)
  unfold prV
  omega
theorem may_prod (a b : Int) : May (prE a b) (prV a b) := by
  have h1 := prE_bd a b
  have h2 := prV_lt a b
  refine ⟨?_, by omega, by omega⟩
  have : (2 : Nat) ^ 128 = 340282366920938463463374607431768211456 := rfl
  omega
/-- the product, rounded -/
def mlP (m a b : Int) : Int := rnP m (prN a b) (prV a b) (prE a b)
def mlF (m a b : Int) : Int := rnF m (prN a b) (prV a b) (prE a b)
theorem ml_comm (m a b : Int) : mlP m a b = mlP m b a ∧ mlF m a b = mlF m b a := by
  unfold mlP mlF
  rw [prN_comm, prV_comm, prE_comm]
  exact ⟨rfl, rfl⟩
theorem ml_bd (m a b : Int) : 0 ≤ mlP m a b ∧ mlP m a b ≤ 9218868437227405312 := rnP_bd _ _ _ _
/-- the product and a third number, in units of 2^-2148; its sign; rounded -/
def fsI (a b c : Int) : Int := smI (-2148) (prN a b) (prE a b) (prV a b) (sgn c) (xp c) (sg c).toNat
def fsN (m a b c : Int) : Bool := sgS m (prN a b) (sgn c) (fsI a b c)
def fsP (m a b c : Int) : Int := rnP m (fsN m a b c) (fsI a b c).natAbs (-2148)
def fsF (m a b c : Int) : Int := rnF m (fsN m a b c) (fsI a b c).natAbs (-2148)
theorem fsI_comm (a b c : Int) : fsI a b c = fsI b a c := by unfold fsI; rw [prN_comm, prV_comm, prE_comm]
theorem fsN_comm (m a b c : Int) : fsN m a b c = fsN m b a c := by unfold fsN; rw [fsI_comm, prN_comm]
theorem fs_comm (m a b c : Int) : fsP m a b c = fsP m b a c ∧ fsF m a b c = fsF m b a c := by
  unfold fsP fsF
  rw [fsN_comm, fsI_comm]
  exact ⟨rfl, rfl⟩
theorem fs_bd (m a b c : Int) : 0 ≤ fsP m a b c ∧ fsP m a b c ≤ 9218868437227405312 := rnP_bd _ _ _ _

/-! ### with nothing added -/
theorem szF_zero (F E : Int) : szF F E 0 = 0 := by unfold szF; simp
theorem fs_zero {m a b c : Int} (h0 : sg c = 0) (hs : sgn c = prN a b) : fsN m a b c = prN a b ∧ fsP m a b c = mlP m a b ∧ fsF m a b c = mlF m a b := by
  have hE := prE_bd a b
  have e0 : fsI a b c = sgI (prN a b) (szF (-2148) (prE a b) (prV a b)) := by
    unfold fsI smI
    rw [h0, Int.toNat_zero, szF_zero]
    cases sgn c <;> simp [sgI]
  have ea : (fsI a b c).natAbs = szF (-2148) (prE a b) (prV a b) := by rw [e0]; exact sgI_abs _ _
  have hn : fsN m a b c = prN a b := by
    unfold fsN sgS
    by_cases hz : fsI a b c = 0
    · rw [if_pos hz, hs, if_pos rfl]
    · rw [if_neg hz, e0]
      refine (sgI_neg fun h => hz ?_).1
      rw [e0, h]
      cases prN a b <;> rfl
  have sp := rnP_scale m (prN a b) (prV a b) (prE a b - -2148).toNat (prE a b)
  have sf := rnF_scale m (prN a b) (prV a b) (prE a b - -2148).toNat (prE a b)
  have eE : prE a b - ((prE a b - -2148).toNat : Int) = -2148 := by omega
  rw [eE] at sp sf
  refine ⟨hn, ?_, ?_⟩
  · unfold fsP mlP; rw [hn, ea]; exact sp
  · unfold fsF mlF; rw [hn, ea]; exact sf

/-! ### times 1 -/
theorem one_num : sgn 4607182418800017408 = false ∧ xp 4607182418800017408 = -52 ∧ sg 4607182418800017408 = 4503599627370496 := by decide
theorem ml_one {m a : Int} (hf : ex a ≠ 2047) : prN a 4607182418800017408 = sgn a ∧ mlP m a 4607182418800017408 = mag a ∧ mlF m a 4607182418800017408 = 0 := by
  obtain ⟨o1, o2, o3⟩ := one_num
  have hn : prN a 4607182418800017408 = sgn a := by unfold prN; rw [o1]; cases sgn a <;> rfl
  have hv : prV a 4607182418800017408 = (sg a).toNat * 2 ^ 52 := by unfold prV; rw [o3]; rfl
  have he : prE a 4607182418800017408 = xp a - ((52 : Nat) : Int) := by unfold prE; rw [o2]; omega
  obtain ⟨q1, q2⟩ := own_pat (m := m) (neg := sgn a) hf
  unfold mlP mlF
  rw [hn, hv, he, rnP_scale, rnF_scale, q1, q2]
  exact ⟨rfl, rfl, rfl⟩

/-! ### the other sign -/
theorem prN_ng {a : Int} (ha : U a) (b : Int) : prN (ng a) b = !prN a b := by
  unfold prN
  rw [(ng_parts ha).2.1]
  cases sgn a <;> cases sgn b <;> rfl
theorem ml_ng {m a : Int} (ha : U a) (b : Int) : mlP (swM m) (ng a) b = mlP m a b ∧ mlF (swM m) (ng a) b = mlF m a b := by
  obtain ⟨e1, e2, _⟩ := ng_num ha
  unfold mlP mlF
  have eV : prV (ng a) b = prV a b := by unfold prV; rw [e2]
  have eE : prE (ng a) b = prE a b := by unfold prE; rw [e1]
  rw [prN_ng ha, eV, eE, rnP_swM, rnF_swM]
  exact ⟨rfl, rfl⟩
theorem ml_ng2 {m a b : Int} (ha : U a) (hb : U b) : prN (ng a) (ng b) = prN a b ∧ mlP m (ng a) (ng b) = mlP m a b ∧ mlF m (ng a) (ng b) = mlF m a b := by
  obtain ⟨e1, e2, _⟩ := ng_num ha
  obtain ⟨f1, f2, _⟩ := ng_num hb
  have eN : prN (ng a) (ng b) = prN a b := by rw [prN_ng ha, prN_comm, prN_ng hb, Bool.not_not, prN_comm]
  have eV : prV (ng a) (ng b) = prV a b := by unfold prV; rw [e2, f2]
  have eE : prE (ng a) (ng b) = prE a b := by unfold prE; rw [e1, f1]
  unfold mlP mlF
  rw [eN, eV, eE]
  exact ⟨rfl, rfl, rfl⟩

/-! ### a pattern that was rounded, as a number -/
theorem pat_num {e : Int} {q : Nat} (he : -1074 ≤ e) (hq : q ≤ 9007199254740992) (hlo : e = -1074 ∨ 4503599627370496 ≤ q) (hb : (e + 1074) * 4503599627370496 + (q : Int) < 9218868437227405312) :
    uV ((e + 1074) * 4503599627370496 + (q : Int)) = q * 2 ^ (e + 1074).toNat := by
  obtain ⟨j, hj⟩ : ∃ j : Nat, e = (j : Int) - 1074 := ⟨(e + 1074).toNat, by omega⟩
  have ej : (e + 1074).toNat = j := by omega
  have ej' : e + 1074 = (j : Int) := by omega
  rw [ej, ej']
  rw [ej'] at hb
  clear ej ej'
  unfold uV szF xp sg
  by_cases c0 : q < 4503599627370496
  · have j0 : j = 0 := by omega
    subst j0
    have ee : ex (((0 : Nat) : Int) * 4503599627370496 + (q : Int)) = 0 := by unfold ex; omega
    have ef : fr (((0 : Nat) : Int) * 4503599627370496 + (q : Int)) = (q : Int) := by unfold fr; omega
    rw [ee, ef]
    simp
  · by_cases c1 : q = 9007199254740992
    · have ee : ex ((j : Int) * 4503599627370496 + (q : Int)) = (j : Int) + 2 := by unfold ex; omega
      have ef : fr ((j : Int) * 4503599627370496 + (q : Int)) = 0 := by unfold fr; omega
      rw [ee, ef, if_neg (by omega), if_neg (by omega), if_neg (by omega), if_neg (by omega)]
      have e1 : ((j : Int) + 2 - 1075 - -1074).toNat = j + 1 := by omega
      rw [e1, c1, Nat.pow_succ]
      have e2 : ((0 : Int) + 4503599627370496).toNat = 4503599627370496 := rfl
      rw [e2]
      omega
    · have ee : ex ((j : Int) * 4503599627370496 + (q : Int)) = (j : Int) + 1 := by unfold ex; omega
      have ef : fr ((j : Int) * 4503599627370496 + (q : Int)) = (q : Int) - 4503599627370496 := by unfold fr; omega
      rw [ee, ef, if_neg (by omega), if_neg (by omega), if_neg (by omega), if_neg (by omega)]
      have e1 : ((j : Int) + 1 - 1075 - -1074).toNat = j := by omega
      have e2 : ((q : Int) - 4503599627370496 + 4503599627370496).toNat = q := by omega
      rw [e1, e2]
/-- what was rounded, and is finite -/
theorem rn_num {m : Int} {n : Bool} {T : Nat} {E : Int} (hT : T ≠ 0) (h : rnF m n T E = 0 ∨ rnF m n T E = 16 ∨ rnF m n T E = 24) :
    p0 m n T E < 9218868437227405312 ∧ rnP m n T E = p0 m n T E ∧ uV (rnP m n T E) = toQ m n T E (lowE T E) * 2 ^ (lowE T E + 1074).toNat ∧ (rnF m n T E = 0 ↔ toL T E (lowE T E) = false) := by
  have hb : p0 m n T E < 9218868437227405312 := by
    unfold rnF at h
    rw [if_neg hT] at h
    by_cases hc : 9218868437227405312 ≤ p0 m n T E
    · rw [if_pos hc] at h; omega
    · omega
  have hp : rnP m n T E = p0 m n T E := by unfold rnP; rw [if_neg hT, if_neg (by omega)]
  have hlo : lowE T E = -1074 ∨ 4503599627370496 ≤ toQ m n T E (lowE T E) := by
    by_cases h1 : lowE T E = -1074
    · exact .inl h1
    · right
      refine low_lo hT ?_
      unfold lowE at h1
      split at h1 <;> omega
  refine ⟨hb, hp, ?_, ?_⟩
  · rw [hp]
    exact pat_num (lowE_ge T E) (low_hi m n T E) hlo hb
  · unfold rnF
    rw [if_neg hT, if_neg (by omega)]
    cases toL T E (lowE T E) with
    | false => simp
    | true =>
      rw [if_pos rfl]
      split <;> simp

/-! ### what rounding to the nearest left -/
theorem rest_half (n : Bool) (T k : Nat) : (T : Int) - (rq 0 n T k : Int) * (2 ^ k : Nat) ≤ (2 ^ k : Nat) / 2 ∧ (rq 0 n T k : Int) * (2 ^ k : Nat) - (T : Int) ≤ (2 ^ k : Nat) / 2 := by
  have hd := Nat.div_add_mod T (2 ^ k)
  have hp : 0 < 2 ^ k := Nat.pow_pos (by omega)
  have hm := Nat.mod_lt T hp
  unfold rq upR restC
  generalize T / 2 ^ k = q at *
  generalize T % 2 ^ k = r at *
  generalize 2 ^ k = P at *
  have e1 : ((q + 1 : Nat) : Int) * (P : Int) = (P : Int) * q + P := by rw [Int.natCast_add, Int.add_mul]; simp [Int.mul_comm]
  have e0 : ((q + 0 : Nat) : Int) * (P : Int) = (P : Int) * q := by rw [Nat.add_zero, Int.mul_comm]
  have hd' : (P : Int) * q + r = T := by rw [← hd]; simp
  by_cases h0 : r = 0
  · simp only [h0, if_true, Bool.false_eq_true, if_false]
    rw [e0]
    omega
  · by_cases h1 : 2 * r < P
    · simp [h0, h1]
      rw [Int.mul_comm]
      omega
    · by_cases h2 : 2 * r = P
      · by_cases ho : odd q = true
        · simp [h0, h2, ho]
          rw [Int.add_mul, Int.mul_comm]
          omega
        · simp [h0, h2, ho]
          rw [Int.mul_comm]
          omega
      · simp [h0, h1, h2]
        rw [Int.add_mul, Int.mul_comm]
        omega
/-- few bits need no rounding -/
theorem few_bits {m k : Int} {n s : Bool} {D A : Nat} {E : Int} (hE : -1074 ≤ E) (hD : D < 9007199254740992) (hDA : D ≤ A) (hA : p0 k s A E < 9218868437227405312) : rnF m n D E = 0 := by
  by_cases h0 : D = 0
  · rw [h0]; simp [rnF]
  · have hlow : lowE D E ≤ E := by
      have := len_le (T := D) (k := 53) (by have : (2 : Nat) ^ 53 = 9007199254740992 := rfl; omega)
      unfold lowE lgN
      split <;> omega
    have hl : toL D E (lowE D E) = false := by unfold toL; rw [if_pos hlow]
    have hp : p0 m n D E = p0 k s D E := by unfold p0 toQ; rw [if_pos hlow, if_pos hlow]
    have hmo := p0_mono (m := k) (neg := s) (E := E) h0 hDA
    unfold rnF
    rw [if_neg h0, hp, if_neg (by omega), hl]
    simp
/-- both sizes plain: the product, rounded to the nearest, in units of 2^-1074 -/
theorem prod_near {n : Bool} {A : Nat} {E : Int} (hE : -1074 ≤ E) (h0 : 20282409603651670423947251286016 ≤ A) (h1 : A < 81129638414606681695789005144064) (hf : rnF 0 n A E = 0 ∨ rnF 0 n A E = 16) :
    ∃ d : Int, d.natAbs < 9007199254740992 ∧ d.natAbs ≤ A ∧ p0 0 n A E < 9218868437227405312 ∧ ((A * 2 ^ (E + 1074).toNat : Nat) : Int) - (uV (rnP 0 n A E) : Int) = d * (2 ^ (E + 1074).toNat : Nat) ∧ (rnF 0 n A E = 0 ↔ d = 0) := by
  obtain ⟨q1, q2, q3, q4⟩ := rn_num (m := 0) (n := n) (T := A) (E := E) (by omega) (by omega)
  have b1 : 105 ≤ bitLen A := le_len (k := 104) (by have : (2 : Nat) ^ 104 = 20282409603651670423947251286016 := rfl; omega)
  have b2 : bitLen A ≤ 106 := len_le (by have : (2 : Nat) ^ 106 = 81129638414606681695789005144064 := rfl; omega)
  obtain ⟨k, hk⟩ : ∃ k : Nat, k = bitLen A - 53 := ⟨_, rfl⟩
  have hlow : lowE A E = E + k := by unfold lowE lgN; split <;> omega
  have ek : (E + (k : Int) - E).toNat = k := by omega
  have hQ : toQ 0 n A E (lowE A E) = rq 0 n A k := by
    rw [hlow]; unfold toQ; rw [if_neg (by omega), ek]
  have hL : toL A E (lowE A E) = decide (A % 2 ^ k ≠ 0) := by
    rw [hlow]; unfold toL; rw [if_neg (by omega), ek]
  have hP : 2 ^ k ≤ 9007199254740992 := by
    have := Nat.pow_le_pow_right (show 0 < 2 by omega) (show k ≤ 53 by omega)
    have e : (2 : Nat) ^ 53 = 9007199254740992 := rfl
    omega
  have hp : 0 < 2 ^ k := Nat.pow_pos (by omega)
  have hh := rest_half n A k
  refine ⟨(A : Int) - (rq 0 n A k : Int) * (2 ^ k : Nat), by omega, by omega, q1, ?_, ?_⟩
  · have e1 : (lowE A E + 1074).toNat = k + (E + 1074).toNat := by rw [hlow]; omega
    rw [q3, hQ, e1, Nat.pow_add, ← Nat.mul_assoc, Int.sub_mul]
    simp only [Int.natCast_mul]
  · rw [q4, hL]
    constructor
    · intro h
      have hz : A % 2 ^ k = 0 := by simpa using h
      have := Nat.div_add_mod A (2 ^ k)
      rw [rq_exact hz, ← Int.natCast_mul, Nat.mul_comm]
      omega
    · intro h
      have h2 : A = rq 0 n A k * 2 ^ k := by
        have h3 : (A : Int) = ((rq 0 n A k * 2 ^ k : Nat) : Int) := by rw [Int.natCast_mul]; omega
        exact Int.ofNat.inj h3
      rw [h2, Nat.mul_mod_left]
      rfl
/-- the sum in units of 2^-1074, where the product's power allows it -/
theorem fs_scaled {j : Nat} (hj : (j : Int) = 1074) {a b c : Int} (hE : -1074 ≤ prE a b) : fsI a b c = (sgI (prN a b) (prV a b * 2 ^ (prE a b + 1074).toNat) + pvI c) * ((2 ^ j : Nat) : Int) := by
  have hc := xp_bd c
  have e := smI_low (F := -2148) (G := -1074) (Ex := prE a b) (Ey := xp c) (by omega) hE hc.1 (prN a b) (sgn c) (prV a b) (sg c).toNat
  have e1 : ((-1074 : Int) - -2148).toNat = j := by omega
  rw [e1] at e
  unfold fsI
  rw [e]
  congr 1
theorem fs_round {j : Nat} (hj : (j : Int) = 1074) {m a b c : Int} {S : Int} (hS : fsI a b c = S * ((2 ^ j : Nat) : Int)) : fsN m a b c = sgS m (prN a b) (sgn c) S ∧ fsP m a b c = rnP m (fsN m a b c) S.natAbs (-1074) ∧ fsF m a b c = rnF m (fsN m a b c) S.natAbs (-1074) := by
  have hK : 0 < 2 ^ j := Nat.pow_pos (by omega)
  have ea : (fsI a b c).natAbs = S.natAbs * 2 ^ j := by rw [hS, Int.natAbs_mul, Int.natAbs_natCast]
  have eE : (-1074 : Int) - (j : Int) = -2148 := by omega
  have sp := rnP_scale m (fsN m a b c) S.natAbs j (-1074)
  have sf := rnF_scale m (fsN m a b c) S.natAbs j (-1074)
  rw [eE] at sp sf
  refine ⟨?_, ?_, ?_⟩
  · unfold fsN; rw [hS, sgS_mul m _ _ _ hK]
  · rw [← sp]; unfold fsP; rw [ea]
  · rw [← sf]; unfold fsF; rw [ea]
end Go.Rn

/-
  PLAIN ARITHMETIC: square roots of whole numbers; the steps that go down to one.
-/
namespace Go.Wd

theorem sq_nonneg' (x : Int) : 0 ≤ x * x := by
  rcases Int.le_total 0 x with h | h
  · exact Int.mul_nonneg h h
  · exact Int.mul_nonneg_of_nonpos_of_nonpos h h
theorem four_le (x z : Int) : 4 * (x * z) ≤ (x + z) * (x + z) := by
  have h := sq_nonneg' (x - z)
  rw [Int.sub_mul, Int.mul_sub, Int.mul_sub, Int.mul_comm z x] at h
  rw [Int.add_mul, Int.mul_add, Int.mul_add, Int.mul_comm z x]
  omega
theorem sq_mono {x y : Int} (h0 : 0 ≤ x) (h : x ≤ y) : x * x ≤ y * y := Int.mul_le_mul h h h0 (by omega)
theorem sq_dbl (x : Int) : 2 * x * (2 * x) = 4 * (x * x) := by
  rw [Int.mul_assoc, Int.mul_left_comm x 2 x]
  omega
theorem sq_suc (x : Int) : (x + 1) * (x + 1) = x * x + 2 * x + 1 := by
  rw [Int.add_mul, Int.mul_add]
  omega
/-- a step is never below the root -/
theorem mid_up {x a : Int} (hx : 1 ≤ x) (ha : 0 ≤ a) : a < ((x + a / x) / 2 + 1) * ((x + a / x) / 2 + 1) := by
  have y0 : 0 ≤ a / x := Int.ediv_nonneg ha (by omega)
  have e := Int.mul_ediv_add_emod a x
  have l := Int.emod_lt_of_pos a (show 0 < x by omega)
  have f := four_le x (a / x + 1)
  have s := sq_mono (x := x + (a / x + 1)) (y := 2 * ((x + a / x) / 2 + 1)) (by omega) (by omega)
  rw [sq_dbl] at s
  rw [Int.mul_add, Int.mul_one] at f
  omega
theorem mid_lim {x a : Int} (hx : 1 ≤ x) (h : a < (x + 1) * (x + 1)) : a / x < x + 3 := by
  apply Int.ediv_lt_of_lt_mul (by omega)
  rw [sq_suc] at h
  rw [Int.add_mul]
  omega
theorem mid_one {x a : Int} (hx : 1 ≤ x) (ha : 1 ≤ a) : 1 ≤ (x + a / x) / 2 := by
  have y0 : 0 ≤ a / x := Int.ediv_nonneg (by omega) (by omega)
  by_cases h : x = 1
  · subst h
    rw [Int.ediv_one]
    omega
  · omega
/-- a step that does not go down: the root is reached -/
theorem mid_end {x a : Int} (hx : 1 ≤ x) (h : x ≤ (x + a / x) / 2) : x * x ≤ a := by
  have e := Int.mul_ediv_add_emod a x
  have l := Int.emod_nonneg a (show x ≠ 0 by omega)
  have m : x * x ≤ x * (a / x) := Int.mul_le_mul_of_nonneg_left (by omega) (by omega)
  omega
/-- one more bit of a root -/
def sqB (n : Nat) : Nat → Nat
  | 0 => if 1 ≤ n then 1 else 0
  | r + 1 => if (r + 2) * (r + 2) ≤ n then r + 2 else r + 1
def isqf : Nat → Nat → Nat
  | 0, _ => 0
  | k + 1, n => sqB n (2 * isqf k (n / 4))
theorem sqB_eq (n r : Nat) : sqB n r = if (r + 1) * (r + 1) ≤ n then r + 1 else r := by
  cases r <;> rfl
theorem isqf_spec (k : Nat) : ∀ n, n < 4 ^ k → isqf k n * isqf k n ≤ n ∧ n < (isqf k n + 1) * (isqf k n + 1) := by
  induction k with
  | zero => intro n h; simp at h; subst h; exact ⟨by decide, by decide⟩
  | succ k ih =>
    intro n h
    obtain ⟨h1, h2⟩ := ih (n / 4) (by rw [Nat.pow_succ] at h; omega)
    show sqB n (2 * isqf k (n / 4)) * sqB n (2 * isqf k (n / 4)) ≤ n ∧ n < (sqB n (2 * isqf k (n / 4)) + 1) * (sqB n (2 * isqf k (n / 4)) + 1)
    rw [sqB_eq]
    generalize isqf k (n / 4) = r at *
    have e1 : 2 * r * (2 * r) = 4 * (r * r) := by rw [Nat.mul_assoc, Nat.mul_left_comm r 2 r]; omega
    have e2 : (r + 1) * (r + 1) = r * r + 2 * r + 1 := by rw [Nat.add_mul, Nat.mul_add]; omega
    have e3 : (2 * r + 1) * (2 * r + 1) = 4 * (r * r) + 4 * r + 1 := by rw [Nat.add_mul, Nat.mul_add, e1]; omega
    have e4 : (2 * r + 1 + 1) * (2 * r + 1 + 1) = 4 * (r * r) + 8 * r + 4 := by rw [Nat.add_mul, Nat.mul_add, e3]; omega
    split
    · rename_i h
      exact ⟨h, by omega⟩
    · exact ⟨by omega, by omega⟩
def isq (n : Nat) : Nat := isqf 128 n
theorem isq_spec {n : Nat} (h : n < 115792089237316195423570985008687907853269984665640564039457584007913129639936) : isq n * isq n ≤ n ∧ n < (isq n + 1) * (isq n + 1) := isqf_spec 128 n (by have : (4 : Nat) ^ 128 = 115792089237316195423570985008687907853269984665640564039457584007913129639936 := rfl; omega)
theorem isq_one {n : Nat} {x : Int} (hn : n < 115792089237316195423570985008687907853269984665640564039457584007913129639936) (h0 : 0 ≤ x) (h1 : x * x ≤ n) (h2 : (n : Int) < (x + 1) * (x + 1)) : x = (isq n : Nat) := by
  obtain ⟨s1, s2⟩ := isq_spec hn
  have s1 : ((isq n : Nat) : Int) * (isq n : Nat) ≤ n := by exact_mod_cast s1
  have s2 : (n : Int) < ((isq n : Nat) + 1) * ((isq n : Nat) + 1) := by exact_mod_cast s2
  rcases Int.lt_trichotomy x (isq n : Nat) with h | h | h
  · have := sq_mono (x := x + 1) (y := (isq n : Nat)) (by omega) (by omega)
    omega
  · exact h
  · have := sq_mono (x := ((isq n : Nat) : Int) + 1) (y := x) (by omega) (by omega)
    omega
end Go.Wd
