/-
  TxE, NumZ, NumY, Num, Num2, NumX4, NumF, NumH, NumQu, NumRd, NumRe, NumRf, NumRg, NumRk, NumRm, RpG
-/
import Derived.Test.YtgefjidphfdhdaaGreatDoorG14
import Derived.Lib.Bytealg
import Derived.Laws.RangeAny
namespace Go.Proofs.YtgefjidphfdhdaaGreatDoor.Na
open Go.KRun Go.Nt
set_option maxRecDepth 100000
theorem pNx_eq {p : Nat} (hp : p < 4294967296) : ∀ j, pNx (p : Nat) j = ((p / 10 ^ j : Nat) : Int)
  | 0 => by simp [pNx]
  | j + 1 => by
    have h1 : p / 10 ^ j ≤ p := Nat.div_le_self _ _
    rw [show pNx (p : Nat) (j + 1) = IntKind.u32.wrap ((pNx (p : Nat) j).tdiv 10) from rfl, pNx_eq hp j, Nat.pow_succ, ← Nat.div_div_eq_div_mul]
    generalize p / 10 ^ j = q at *
    rw [Int.tdiv_eq_ediv_of_nonneg (by omega)]
    simp [IntKind.wrap, IntKind.bits, IntKind.signed]
    omega
theorem dgV_eq {p : Nat} : dgV (p : Nat) = ub (asc ((p % 10 : Nat) : Int)) := by
  have e : ((p : Nat) : Int).tmod 10 = ((p % 10 : Nat) : Int) := by rw [Int.tmod_eq_emod_of_nonneg (by omega)]; omega
  unfold dgV asc
  rw [e]
  congr 1
  simp [IntKind.wrap, IntKind.bits, IntKind.signed]
  omega
theorem apB_eq {p : Nat} (hp : p < 4294967296) (D : List Int) : ∀ j, apB (wB (D.map asc)) (p : Nat) j = wB ((D ++ ld j p).map asc)
  | 0 => by simp [apB, ld]
  | j + 1 => by
    rw [show apB (wB (D.map asc)) (p : Nat) (j + 1) = apB (wB (D.map asc)) (p : Nat) j ++ [dgV (pNx (p : Nat) j)] from rfl, apB_eq hp D j, pNx_eq hp j, dgV_eq, ld_snoc]
    simp [wB]
theorem appChk_B {L : List Int} {x : Int} {k : Nat} (hk : k = L.length) (hb : k < 1073741824) : appChk tBy (wB L, tBy) ([ub x], tBy) k 0 1 = true := by
  subst hk
  unfold appChk
  simp only [Bool.and_eq_true, Bool.not_eq_true', wB_len]
  refine ⟨⟨⟨⟨⟨⟨⟨⟨Nat.beq_refl _, Nat.ble_eq_true_of_le (by omega)⟩, by kernel_rfl⟩, by kernel_rfl⟩, by kernel_rfl⟩, by kernel_rfl⟩, by rfl⟩, by rfl⟩, by rfl⟩
theorem apL_ok {p : Nat} (hp : p < 4294967296) (D : List Int) {m j : Nat} (hm : m = D.length + j) (hb : m < 1073741824) : (apL (wB (D.map asc)) (p : Nat) m j).1 = (apL (wB (D.map asc)) (p : Nat) m j).2 := by
  unfold apL
  simp only
  rw [apB_eq hp D j, pNx_eq hp j, dgV_eq]
  exact appChk_B (by simp [ld_len, hm]) hb
theorem wB_still (L : List Int) : (wB L).all still = true := by
  unfold wB
  rw [List.all_eq_true]
  intro v hv
  obtain ⟨x, _, rfl⟩ := List.mem_map.1 hv
  rfl
theorem pw_29 {k V : Nat} (h : 10 ^ (9 * k) ≤ V) {e : Nat} (he : e = 262144) (hV : V < 2 ^ e) : k < 9040 := by
  have h1 : (2 : Nat) ^ (29 * k) ≤ 10 ^ (9 * k) := by
    rw [Nat.pow_mul, Nat.pow_mul]
    exact Nat.pow_le_pow_left (by decide) k
  rcases Nat.lt_or_ge k 9040 with h2 | h2
  · exact h2
  · exfalso
    have h3 : (2 : Nat) ^ e ≤ 2 ^ (29 * k) := Nat.pow_le_pow_right (by omega) (by omega)
    omega
/-- the blocks above the words' -/
def dX (k : Nat) (D : List Int) : List (List Value × TypeId) := if k = 0 then [] else [(wB (D.map asc), tBy)]
def dS (k : Nat) (D : List Int) : Value := if k = 0 then nilS else .slice (some ⟨2, 0, none⟩) D.length grown
def dInv (a : Value) (la : List Value) (N V : Nat) (r : Nat) (y : Lf) : Prop := ∃ (k : Nat) (D W Z : List Int) (w : Value) (g : Nat → Value), y.1 = dF a (sl 1 0 W.length N) (dS k D) w ++ tl 38 g ∧ y.2.1 = hX (dX k D) (wU (W ++ Z)) la ∧ D.length = 9 * k ∧ (∀ x ∈ D, Dg 10 x) ∧ wds (W ++ Z) ∧ trimN W = W.length ∧ (W ++ Z).length = N ∧ vb 10 D + 10 ^ (9 * k) * vb 4294967296 W = V ∧ r = vb 4294967296 W ∧ k ≤ 9040
theorem vb_pos10 {W : List Int} (hw : wds W) (ht : trimN W = W.length) : 0 < vb 4294967296 W ↔ 0 < W.length := by
  have hd : db 4294967296 (vb 4294967296 W) = W := db_can (by omega) ⟨fun x hx => ⟨(hw x hx).1, by have := (hw x hx).2; omega⟩, ht⟩
  constructor
  · intro h
    rcases Nat.eq_zero_or_pos W.length with h0 | h0
    · rw [List.length_eq_zero_iff.1 h0] at h
      exact absurd h (by decide)
    · exact h0
  · intro h
    rcases Nat.eq_zero_or_pos (vb 4294967296 W) with h0 | h0
    · rw [h0, db_zero] at hd
      rw [← hd] at h
      exact absurd h (by decide)
    · exact h0
theorem wdsDg {W : List Int} (h : wds W) : ∀ x ∈ W, Dg 4294967296 x := fun x hx => ⟨(h x hx).1, by have := (h x hx).2; omega⟩
/-- what the words are behind a piece -/
theorem tp_words {W Z : List Int} (h : wds (W ++ Z)) : tpP (wU (W ++ Z)) W.length = ((vb 4294967296 W % 1000000000 : Nat) : Int) ∧ ∃ Z', tpS (wU (W ++ Z)) W.length = wU (db 4294967296 (vb 4294967296 W / 1000000000) ++ Z') ∧ trS (wU (W ++ Z)) W.length = (db 4294967296 (vb 4294967296 W / 1000000000)).length ∧ wds (db 4294967296 (vb 4294967296 W / 1000000000) ++ Z') ∧ (db 4294967296 (vb 4294967296 W / 1000000000) ++ Z').length = (W ++ Z).length := by
  have hW : wds W := fun x hx => h x (List.mem_append_left _ hx)
  have hZ : wds Z := fun x hx => h x (List.mem_append_right _ hx)
  have ec : cutI (wU (W ++ Z)) 0 W.length = W := by rw [cutI_wT, List.take_left]
  have ev := vN_vb hW
  have e1 : vN W / 1000000000 = ((vb 4294967296 W / 1000000000 : Nat) : Int) := by rw [ev]; omega
  have lt : vb 4294967296 W < 4294967296 ^ W.length := vb_lt (by omega) W (wdsDg hW)
  have hq : vb 4294967296 W / 1000000000 < 4294967296 ^ W.length := Nat.lt_of_le_of_lt (Nat.div_le_self _ _) lt
  have hqi : ((vb 4294967296 W / 1000000000 : Nat) : Int) < (4294967296 : Int) ^ W.length := by
    have h1 := Int.ofNat_lt.2 hq
    rw [Int.natCast_pow] at h1
    exact h1
  have eS : tpS (wU (W ++ Z)) W.length = wU (dg W.length ((vb 4294967296 W / 1000000000 : Nat) : Int) ++ Z) := by
    unfold tpS
    rw [ec, e1]
    have : (wU (W ++ Z)).drop W.length = wU Z := by unfold wU; rw [List.map_append, List.drop_left' (by simp)]
    rw [this]
    unfold wU
    rw [List.map_append]
  have hdg : wds (dg W.length ((vb 4294967296 W / 1000000000 : Nat) : Int)) := dg_wds _ _
  have htk := take_dg (m := W.length) (V := vb 4294967296 W / 1000000000) hqi
  have eT : trS (wU (W ++ Z)) W.length = (db 4294967296 (vb 4294967296 W / 1000000000)).length := by
    unfold trS
    rw [eS, cutI_wT, List.take_left' (dg_len _ _), ← htk, List.length_take, dg_len]
    have := trimN_le (dg W.length ((vb 4294967296 W / 1000000000 : Nat) : Int))
    rw [dg_len] at this
    omega
  have eD : dg W.length ((vb 4294967296 W / 1000000000 : Nat) : Int) = db 4294967296 (vb 4294967296 W / 1000000000) ++ (dg W.length ((vb 4294967296 W / 1000000000 : Nat) : Int)).drop (trimN (dg W.length ((vb 4294967296 W / 1000000000 : Nat) : Int))) := by
    conv => lhs; rw [← List.take_append_drop (trimN (dg W.length ((vb 4294967296 W / 1000000000 : Nat) : Int))) (dg W.length ((vb 4294967296 W / 1000000000 : Nat) : Int))]
    rw [htk]
  refine ⟨?_, (dg W.length ((vb 4294967296 W / 1000000000 : Nat) : Int)).drop (trimN (dg W.length ((vb 4294967296 W / 1000000000 : Nat) : Int))) ++ Z, ?_, eT, ?_, ?_⟩
  · unfold tpP
    rw [ec, ev]
    omega
  · rw [eS, ← List.append_assoc, ← eD]
  · rw [← List.append_assoc, ← eD]
    exact wds_app hdg hZ
  · rw [← List.append_assoc, ← eD]
    simp [dg_len]
end Go.Proofs.YtgefjidphfdhdaaGreatDoor.Na
namespace Go.Rn
/-- whether it goes up: c: what is beyond a multiple: 0 nothing, 1 below a half, 2 a half, 3 above it -/
def upR (m : Int) (neg odd : Bool) (c : Int) : Bool :=
  if c = 0 then false else if m = 2 then false else if m = 3 then !neg else if m = 4 then neg else if m = 1 then decide (2 ≤ c) else decide (2 < c) || (decide (c = 2) && odd)
def restC (r P : Nat) : Int := if r = 0 then 0 else if 2 * r < P then 1 else if 2 * r = P then 2 else 3
def odd (q : Nat) : Bool := decide (q % 2 = 1)
def rq (m : Int) (neg : Bool) (T k : Nat) : Nat := T / 2 ^ k + (if upR m neg (odd (T / 2 ^ k)) (restC (T % 2 ^ k) (2 ^ k)) = true then 1 else 0)
def toQ (m : Int) (neg : Bool) (T : Nat) (E e : Int) : Nat := if e ≤ E then T * 2 ^ (E - e).toNat else rq m neg T (e - E).toNat
def toL (T : Nat) (E e : Int) : Bool := if e ≤ E then false else decide (T % 2 ^ (e - E).toNat ≠ 0)
def lgN (T : Nat) (E : Int) : Int := E + (bitLen T : Nat) - 1
def lowE (T : Nat) (E : Int) : Int := if lgN T E - 52 ≤ -1074 then -1074 else lgN T E - 52
/-- the pattern, as if there were no greatest -/
def p0 (m : Int) (neg : Bool) (T : Nat) (E : Int) : Int := (lowE T E + 1074) * 4503599627370496 + (toQ m neg T E (lowE T E) : Nat)
def tiny (m : Int) (neg : Bool) (T : Nat) (E : Int) : Bool := if lgN T E = -1023 then decide (toQ m neg T E (-1075) < 9007199254740992) else decide (lgN T E < -1022)
def bey (m : Int) (neg : Bool) : Int := if upR m neg true 3 = true then 9218868437227405312 else 9218868437227405311
def rnP (m : Int) (neg : Bool) (T : Nat) (E : Int) : Int := if T = 0 then 0 else if 9218868437227405312 ≤ p0 m neg T E then bey m neg else p0 m neg T E
def rnF (m : Int) (neg : Bool) (T : Nat) (E : Int) : Int := if T = 0 then 0 else if 9218868437227405312 ≤ p0 m neg T E then 20 else if toL T E (lowE T E) = true then (if tiny m neg T E = true then 24 else 16) else 0
/-! ### the two signs -/
def swM (m : Int) : Int := if m = 3 then 4 else if m = 4 then 3 else m
theorem upR_swM (m : Int) (neg o : Bool) (c : Int) : upR (swM m) (!neg) o c = upR m neg o c := by
  unfold upR swM
  by_cases h3 : m = 3
  · subst h3; simp
  · by_cases h4 : m = 4
    · subst h4; simp
    · simp [h3, h4]
theorem toQ_swM (m : Int) (neg : Bool) (T : Nat) (E e : Int) : toQ (swM m) (!neg) T E e = toQ m neg T E e := by
  unfold toQ rq
  simp only [upR_swM]
theorem rnP_swM (m : Int) (neg : Bool) (T : Nat) (E : Int) : rnP (swM m) (!neg) T E = rnP m neg T E := by
  unfold rnP p0 bey
  simp only [upR_swM, toQ_swM]
theorem rnF_swM (m : Int) (neg : Bool) (T : Nat) (E : Int) : rnF (swM m) (!neg) T E = rnF m neg T E := by
  unfold rnF p0 tiny
  simp only [toQ_swM]
/-! ### bits -/
theorem len_pos {T : Nat} (h : T ≠ 0) : 1 ≤ bitLen T := by unfold bitLen; rw [if_neg h]; omega
theorem len_uniq {T k : Nat} (h0 : 2 ^ k ≤ T) (h1 : T < 2 ^ (k + 1)) : bitLen T = k + 1 := by
  have hp : 0 < 2 ^ k := Nat.pow_pos (by omega)
  obtain ⟨a1, a2⟩ := bitLen_spec T
  have a2 := a2 (by omega)
  have a3 := len_pos (show T ≠ 0 by omega)
  rcases Nat.lt_or_ge (bitLen T) (k + 1) with h | h
  · have := Nat.pow_le_pow_right (show 0 < 2 by omega) (show bitLen T ≤ k by omega)
    omega
  · rcases Nat.lt_or_ge (k + 1) (bitLen T) with h' | h'
    · have := Nat.pow_le_pow_right (show 0 < 2 by omega) (show k + 1 ≤ bitLen T - 1 by omega)
      omega
    · omega
theorem len_le {T k : Nat} (h : T < 2 ^ k) : bitLen T ≤ k := by
  by_cases h0 : T = 0
  · subst h0; simp [bitLen]
  · have a2 := (bitLen_spec T).2 h0
    rcases Nat.lt_or_ge k (bitLen T) with h' | h'
    · have := Nat.pow_le_pow_right (show 0 < 2 by omega) (show k ≤ bitLen T - 1 by omega)
      omega
    · exact h'
theorem le_len {T k : Nat} (h : 2 ^ k ≤ T) : k + 1 ≤ bitLen T := by
  have a1 := (bitLen_spec T).1
  rcases Nat.lt_or_ge (bitLen T) (k + 1) with h' | h'
  · have := Nat.pow_le_pow_right (show 0 < 2 by omega) (show bitLen T ≤ k by omega)
    omega
  · exact h'
theorem len_mul {T : Nat} (h : T ≠ 0) (j : Nat) : bitLen (T * 2 ^ j) = bitLen T + j := by
  have hp : 0 < 2 ^ j := Nat.pow_pos (by omega)
  obtain ⟨a1, a2⟩ := bitLen_spec T
  have a2 := a2 h
  have a3 := len_pos h
  have e : bitLen T + j = (bitLen T - 1 + j) + 1 := by omega
  rw [e]
  apply len_uniq
  · rw [Nat.pow_add]; exact Nat.mul_le_mul_right _ a2
  · rw [show bitLen T - 1 + j + 1 = bitLen T + j by omega, Nat.pow_add]; exact Nat.mul_lt_mul_of_pos_right a1 hp
theorem len_mono {T U : Nat} (h : T ≤ U) : bitLen T ≤ bitLen U := len_le (Nat.lt_of_le_of_lt h (bitLen_spec U).1)
/-! ### what is beyond -/
theorem upR_zero (m : Int) (neg o : Bool) : upR m neg o 0 = false := by simp [upR]
theorem restC_zero (P : Nat) : restC 0 P = 0 := by simp [restC]
theorem restC_bd (r P : Nat) : 0 ≤ restC r P ∧ restC r P ≤ 3 := by unfold restC; split <;> (try split) <;> (try split) <;> omega
theorem restC_mono {r s P : Nat} (h : r ≤ s) : restC r P ≤ restC s P := by
  unfold restC
  by_cases h0 : r = 0
  · rw [if_pos h0]; split <;> (try split) <;> (try split) <;> omega
  · rw [if_neg h0, if_neg (show ¬ s = 0 by omega)]
    split <;> (try split) <;> (try split) <;> (try split) <;> omega
theorem restC_scale (r P j : Nat) : restC (r * 2 ^ j) (P * 2 ^ j) = restC r P := by
  have hp : 0 < 2 ^ j := Nat.pow_pos (by omega)
  unfold restC
  have e0 : (r * 2 ^ j = 0) ↔ r = 0 := by rw [Nat.mul_eq_zero]; omega
  have e1 : (2 * (r * 2 ^ j) < P * 2 ^ j) ↔ 2 * r < P := by rw [← Nat.mul_assoc]; exact Nat.mul_lt_mul_right hp
  have e2 : (2 * (r * 2 ^ j) = P * 2 ^ j) ↔ 2 * r = P := by rw [← Nat.mul_assoc]; exact Nat.mul_left_inj (by omega)
  simp only [e0, e1, e2]
theorem upR_mono {m : Int} {neg o : Bool} {c d : Int} (h0 : 0 ≤ c) (h : c ≤ d) (hu : upR m neg o c = true) : upR m neg o d = true := by
  unfold upR at *
  by_cases hc : c = 0
  · rw [if_pos hc] at hu; cases hu
  · rw [if_neg hc] at hu
    rw [if_neg (show ¬ d = 0 by omega)]
    by_cases h2 : m = 2
    · rw [if_pos h2] at hu; cases hu
    · rw [if_neg h2] at hu ⊢
      by_cases h3 : m = 3
      · rw [if_pos h3] at hu ⊢; exact hu
      · rw [if_neg h3] at hu ⊢
        by_cases h4 : m = 4
        · rw [if_pos h4] at hu ⊢; exact hu
        · rw [if_neg h4] at hu ⊢
          by_cases h1 : m = 1
          · rw [if_pos h1] at hu ⊢
            simp only [decide_eq_true_eq] at *
            omega
          · rw [if_neg h1] at hu ⊢
            simp only [Bool.or_eq_true, Bool.and_eq_true, decide_eq_true_eq] at *
            rcases hu with hu | ⟨hu, ho⟩
            · left; omega
            · by_cases hd : d = 2
              · right; exact ⟨hd, ho⟩
              · left; omega
/-! ### multiples -/
theorem rq_bd (m : Int) (neg : Bool) (T k : Nat) : T / 2 ^ k ≤ rq m neg T k ∧ rq m neg T k ≤ T / 2 ^ k + 1 := by unfold rq; split <;> omega
theorem rq_exact {m : Int} {neg : Bool} {T k : Nat} (h : T % 2 ^ k = 0) : rq m neg T k = T / 2 ^ k := by
  unfold rq
  rw [h, restC_zero, upR_zero]
  simp
theorem rq_scale (m : Int) (neg : Bool) (T k j : Nat) : rq m neg (T * 2 ^ j) (k + j) = rq m neg T k := by
  have hp : 0 < 2 ^ j := Nat.pow_pos (by omega)
  unfold rq
  rw [Nat.pow_add, Nat.mul_div_mul_right _ _ hp, Nat.mul_mod_mul_right, restC_scale]
theorem rq_mono {m : Int} {neg : Bool} {T U : Nat} (k : Nat) (h : T ≤ U) : rq m neg T k ≤ rq m neg U k := by
  have hp : 0 < 2 ^ k := Nat.pow_pos (by omega)
  have hd : T / 2 ^ k ≤ U / 2 ^ k := Nat.div_le_div_right h
  have b1 := rq_bd m neg T k
  have b2 := rq_bd m neg U k
  by_cases he : T / 2 ^ k = U / 2 ^ k
  · have m1 := Nat.div_add_mod T (2 ^ k)
    have m2 := Nat.div_add_mod U (2 ^ k)
    have hr : T % 2 ^ k ≤ U % 2 ^ k := by rw [he] at m1; omega
    unfold rq
    rw [he]
    by_cases hu : upR m neg (odd (U / 2 ^ k)) (restC (T % 2 ^ k) (2 ^ k)) = true
    · rw [if_pos hu, if_pos (upR_mono (restC_bd _ _).1 (restC_mono hr) hu)]
      omega
    · rw [if_neg hu]; split <;> omega
  · omega
/-- scale: the same number told in two ways -/
theorem toQ_scale (m : Int) (neg : Bool) (T j : Nat) (E e : Int) : toQ m neg (T * 2 ^ j) (E - j) e = toQ m neg T E e := by
  unfold toQ
  by_cases h1 : e ≤ E
  · rw [if_pos h1]
    by_cases h2 : e ≤ E - j
    · rw [if_pos h2, Nat.mul_assoc, ← Nat.pow_add]
      congr 2; omega
    · rw [if_neg h2]
      have ej : j = (E - e).toNat + (e - (E - j)).toNat := by omega
      have e1 : T * 2 ^ j = T * 2 ^ (E - e).toNat * 2 ^ (e - (E - j)).toNat := by rw [Nat.mul_assoc, ← Nat.pow_add, ← ej]
      have hp : 0 < 2 ^ (e - (E - j)).toNat := Nat.pow_pos (by omega)
      rw [e1, rq_exact (Nat.mul_mod_left _ _), Nat.mul_div_cancel _ hp]
  · rw [if_neg h1, if_neg (by omega), show (e - (E - j)).toNat = (e - E).toNat + j by omega, rq_scale]
theorem toL_scale (T j : Nat) (E e : Int) : toL (T * 2 ^ j) (E - j) e = toL T E e := by
  have hp : 0 < 2 ^ j := Nat.pow_pos (by omega)
  unfold toL
  by_cases h1 : e ≤ E
  · rw [if_pos h1]
    by_cases h2 : e ≤ E - j
    · rw [if_pos h2]
    · rw [if_neg h2]
      have ej : j = (E - e).toNat + (e - (E - j)).toNat := by omega
      have e1 : T * 2 ^ j = T * 2 ^ (E - e).toNat * 2 ^ (e - (E - j)).toNat := by rw [Nat.mul_assoc, ← Nat.pow_add, ← ej]
      rw [e1, Nat.mul_mod_left]
      simp
  · rw [if_neg h1, if_neg (by omega), show (e - (E - j)).toNat = (e - E).toNat + j by omega, Nat.pow_add, Nat.mul_mod_mul_right]
    congr 1
    rw [ne_eq, ne_eq, Nat.mul_eq_zero]
    simp only [eq_iff_iff]
    omega
theorem lgN_scale {T : Nat} (h : T ≠ 0) (j : Nat) (E : Int) : lgN (T * 2 ^ j) (E - j) = lgN T E := by
  unfold lgN
  rw [len_mul h]
  omega
theorem lowE_scale {T : Nat} (h : T ≠ 0) (j : Nat) (E : Int) : lowE (T * 2 ^ j) (E - j) = lowE T E := by unfold lowE; rw [lgN_scale h]
theorem p0_scale {T : Nat} (h : T ≠ 0) (m : Int) (neg : Bool) (j : Nat) (E : Int) : p0 m neg (T * 2 ^ j) (E - j) = p0 m neg T E := by unfold p0; rw [lowE_scale h, toQ_scale]
theorem tiny_scale {T : Nat} (h : T ≠ 0) (m : Int) (neg : Bool) (j : Nat) (E : Int) : tiny m neg (T * 2 ^ j) (E - j) = tiny m neg T E := by unfold tiny; rw [lgN_scale h, toQ_scale]
theorem scale_ne {T : Nat} (j : Nat) : (T * 2 ^ j = 0) = (T = 0) := by
  have hp : 0 < 2 ^ j := Nat.pow_pos (by omega)
  rw [Nat.mul_eq_zero]
  simp only [eq_iff_iff]
  omega
theorem rnP_scale (m : Int) (neg : Bool) (T j : Nat) (E : Int) : rnP m neg (T * 2 ^ j) (E - j) = rnP m neg T E := by
  unfold rnP
  simp only [scale_ne]
  by_cases h : T = 0
  · rw [if_pos h, if_pos h]
  · rw [if_neg h, if_neg h, p0_scale h]
theorem rnF_scale (m : Int) (neg : Bool) (T j : Nat) (E : Int) : rnF m neg (T * 2 ^ j) (E - j) = rnF m neg T E := by
  unfold rnF
  simp only [scale_ne]
  by_cases h : T = 0
  · rw [if_pos h, if_pos h]
  · rw [if_neg h, if_neg h, p0_scale h, tiny_scale h, lowE_scale h, toL_scale]
end Go.Rn
namespace Go.Rn
open Go.Pt
/-! ### how great a multiple's number is -/
theorem toQ_le {m : Int} {neg : Bool} {T : Nat} {E e : Int} {n : Nat} (h : (bitLen T : Int) + (E - e) ≤ n) : toQ m neg T E e ≤ 2 ^ n := by
  have a1 := (bitLen_spec T).1
  unfold toQ
  by_cases he : e ≤ E
  · rw [if_pos he]
    have hp : 0 < 2 ^ (E - e).toNat := Nat.pow_pos (by omega)
    have := Nat.mul_le_mul_right (2 ^ (E - e).toNat) (Nat.le_of_lt a1)
    rw [← Nat.pow_add] at this
    have h2 := Nat.pow_le_pow_right (show 0 < 2 by omega) (show bitLen T + (E - e).toNat ≤ n by omega)
    omega
  · rw [if_neg he]
    have b := (rq_bd m neg T (e - E).toNat).2
    have h2 := Nat.pow_le_pow_right (show 0 < 2 by omega) (show bitLen T ≤ n + (e - E).toNat by omega)
    have h3 : T / 2 ^ (e - E).toNat < 2 ^ n := by
      apply Nat.div_lt_of_lt_mul
      rw [Nat.pow_add, Nat.mul_comm] at h2
      omega
    omega
theorem toQ_ge {m : Int} {neg : Bool} {T : Nat} {E e : Int} {n : Nat} (hT : T ≠ 0) (h : (n : Int) + 1 ≤ (bitLen T : Int) + (E - e)) : 2 ^ n ≤ toQ m neg T E e := by
  have a2 := (bitLen_spec T).2 hT
  have a3 := len_pos hT
  unfold toQ
  by_cases he : e ≤ E
  · rw [if_pos he]
    have := Nat.mul_le_mul_right (2 ^ (E - e).toNat) a2
    rw [← Nat.pow_add] at this
    have h2 := Nat.pow_le_pow_right (show 0 < 2 by omega) (show n ≤ bitLen T - 1 + (E - e).toNat by omega)
    omega
  · rw [if_neg he]
    have b := (rq_bd m neg T (e - E).toNat).1
    have hp : 0 < 2 ^ (e - E).toNat := Nat.pow_pos (by omega)
    have h2 := Nat.pow_le_pow_right (show 0 < 2 by omega) (show n + (e - E).toNat ≤ bitLen T - 1 by omega)
    have h3 : 2 ^ n ≤ T / 2 ^ (e - E).toNat := by
      rw [Nat.le_div_iff_mul_le hp, ← Nat.pow_add]
      omega
    omega
theorem low_hi (m : Int) (neg : Bool) (T : Nat) (E : Int) : toQ m neg T E (lowE T E) ≤ 9007199254740992 := by
  refine toQ_le (n := 53) ?_
  unfold lowE lgN
  split <;> omega
theorem low_lo {m : Int} {neg : Bool} {T : Nat} {E : Int} (hT : T ≠ 0) (h : -1074 ≤ lgN T E - 52) : 4503599627370496 ≤ toQ m neg T E (lowE T E) := by
  refine toQ_ge (n := 52) hT ?_
  unfold lowE lgN at *
  split <;> omega
/-! ### order -/
theorem toQ_mono {m : Int} {neg : Bool} {T U : Nat} {E : Int} (e : Int) (h : T ≤ U) : toQ m neg T E e ≤ toQ m neg U E e := by
  unfold toQ
  split
  · exact Nat.mul_le_mul_right _ h
  · exact rq_mono _ h
theorem lgN_mono {T U : Nat} (E : Int) (h : T ≤ U) : lgN T E ≤ lgN U E := by
  have := len_mono h
  unfold lgN
  omega
theorem p0_mono {m : Int} {neg : Bool} {T U : Nat} {E : Int} (hT : T ≠ 0) (h : T ≤ U) : p0 m neg T E ≤ p0 m neg U E := by
  have hl := lgN_mono E h
  unfold p0
  by_cases he : lowE T E = lowE U E
  · rw [he]
    have := toQ_mono (m := m) (neg := neg) (E := E) (lowE U E) h
    omega
  · have h1 := low_hi m neg T E
    have h3 : -1074 ≤ lgN U E - 52 ∧ lowE T E + 1 ≤ lowE U E := by
      unfold lowE at he ⊢
      split at he <;> split at he <;> (try split) <;> (try split) <;> omega
    have h2 := low_lo (m := m) (neg := neg) (T := U) (E := E) (by omega) h3.1
    omega
theorem lowE_ge (T : Nat) (E : Int) : -1074 ≤ lowE T E := by unfold lowE; split <;> omega
theorem p0_nonneg (m : Int) (neg : Bool) (T : Nat) (E : Int) : 0 ≤ p0 m neg T E := by
  have := lowE_ge T E
  unfold p0
  omega
theorem bey_or (m : Int) (neg : Bool) : bey m neg = 9218868437227405312 ∨ bey m neg = 9218868437227405311 := by unfold bey; split <;> simp
theorem rnP_bd (m : Int) (neg : Bool) (T : Nat) (E : Int) : 0 ≤ rnP m neg T E ∧ rnP m neg T E ≤ 9218868437227405312 := by
  have h := p0_nonneg m neg T E
  have hb := bey_or m neg
  unfold rnP
  split
  · omega
  · split <;> omega
theorem rnP_mono {m : Int} {neg : Bool} {T U : Nat} {E : Int} (h : T ≤ U) : rnP m neg T E ≤ rnP m neg U E := by
  have hU := rnP_bd m neg U E
  by_cases hT : T = 0
  · unfold rnP at *
    rw [if_pos hT]
    exact hU.1
  · have hp := p0_mono (m := m) (neg := neg) (E := E) hT h
    have hb := bey_or m neg
    unfold rnP
    rw [if_neg hT, if_neg (show ¬ U = 0 by omega)]
    split <;> split <;> omega
/-! ### between -/
/-! ### a pattern's own number -/
end Go.Rn
namespace Go.Wd
structure W4 where
  a : Int
  b : Int
  c : Int
  d : Int
/-! ### a sum -/
/-! ### a difference -/
theorem wrap_i64' {n : Int} (h0 : -9223372036854775808 ≤ n) (h1 : n ≤ 9223372036854775807) : IntKind.i64.wrap n = n := by
  simp [IntKind.wrap, IntKind.bits, IntKind.signed]; omega
/-- q = 2^p, r = 2^(64-p) -/
structure Parts (n q r : Int) : Prop where
  q1 : 1 ≤ q
  r1 : 1 < r
  qr : q * r = 18446744073709551616
  eq : q = 2 ^ (n % 64).toNat
  er : r = 2 ^ (64 - n % 64).toNat
/-- a = r * hi + lo: up: lo * q; down: hi -/
structure Cut (a q r hi lo : Int) : Prop where
  sum : a = r * hi + lo
  lo0 : 0 ≤ lo
  lo1 : lo < r
  hi0 : 0 ≤ hi
  hi1 : hi < q
/-! ### moved up -/
/-! ### moved down -/
structure Cut' (a q r hi lo : Int) : Prop where
  sum : a = q * hi + lo
  lo0 : 0 ≤ lo
  lo1 : lo < q
  hi0 : 0 ≤ hi
  hi1 : hi < r
end Go.Wd
namespace Go.Wd
open Go.Rn
theorem cast_pow (k : Nat) : ((2 : Int) ^ k) = ((2 ^ k : Nat) : Int) := by simp
end Go.Wd
namespace Go.Rn
open Go.Nt Go.Wd
/-- all but the low d bits, and behind them one bit for these -/
def stk (A d : Nat) : Nat := 2 * (A / 2 ^ d) + (if A % 2 ^ d = 0 then 0 else 1)
theorem stk_bit (A d : Nat) : (if A % 2 ^ d = 0 then 0 else 1) ≤ 1 := by split <;> omega
theorem stk_div (A d j : Nat) : stk A d / 2 ^ (j + 1) = A / 2 ^ (d + j) := by
  have e : stk A d / 2 = A / 2 ^ d := by unfold stk; split <;> omega
  rw [Nat.pow_succ, Nat.mul_comm, ← Nat.div_div_eq_div_mul, e, Nat.div_div_eq_div_mul, Nat.pow_add]
theorem stk_mod (A d j : Nat) : stk A d % 2 ^ (j + 1) = 2 * (A / 2 ^ d % 2 ^ j) + (if A % 2 ^ d = 0 then 0 else 1) := by
  rw [Nat.pow_succ, Nat.mul_comm, Nat.mod_mul]
  have e : stk A d / 2 = A / 2 ^ d := by unfold stk; split <;> omega
  rw [e]
  unfold stk
  split <;> omega
theorem all_mod (A d j : Nat) : A % 2 ^ (d + j) = A % 2 ^ d + 2 ^ d * (A / 2 ^ d % 2 ^ j) := by rw [Nat.pow_add, Nat.mod_mul]
theorem stk_zero (A d j : Nat) : stk A d % 2 ^ (j + 1) = 0 ↔ A % 2 ^ (d + j) = 0 := by
  have hD : 0 < 2 ^ d := Nat.pow_pos (by omega)
  rw [stk_mod, all_mod]
  generalize A / 2 ^ d % 2 ^ j = r
  constructor
  · intro h
    have h1 : A % 2 ^ d = 0 := by
      by_cases h0 : A % 2 ^ d = 0
      · exact h0
      · rw [if_neg h0] at h; omega
    rw [if_pos h1] at h
    have : r = 0 := by omega
    rw [h1, this]; simp
  · intro h
    have h1 : A % 2 ^ d = 0 := by omega
    rw [if_pos h1]
    have h2 : 2 ^ d * r = 0 := by omega
    rcases Nat.mul_eq_zero.1 h2 with h3 | h3
    · omega
    · rw [h3]
theorem rest_core {r r' D Q s : Nat} (hD : r' < D) (hQ : 0 < Q) (hb : s ≤ 1) (hs : s = 0 ↔ r' = 0) : restC (2 * r + s) (4 * Q) = restC (r' + D * r) (2 * (D * Q)) := by
  have hDr : r ≤ D * r := Nat.le_mul_of_pos_left r (by omega)
  unfold restC
  by_cases h0 : r' + D * r = 0
  · have : r' = 0 := by omega
    have := hs.2 this
    rw [if_pos h0, if_pos (by omega)]
  · have hz : ¬ 2 * r + s = 0 := by
      intro h
      apply h0
      have h1 : r = 0 := by omega
      have h2 := hs.1 (by omega)
      rw [h1, h2]; rfl
    rw [if_neg h0, if_neg hz]
    rcases Nat.lt_trichotomy r Q with h | h | h
    · have h1 : D * r + D ≤ D * Q := by rw [← Nat.mul_succ]; exact Nat.mul_le_mul_left D h
      rw [if_pos (by omega), if_pos (by omega)]
    · subst h
      by_cases hs0 : s = 0
      · have := hs.1 hs0
        rw [if_neg (by omega), if_pos (by omega), if_neg (by omega), if_pos (by omega)]
      · have : r' ≠ 0 := fun h => hs0 (hs.2 h)
        rw [if_neg (by omega), if_neg (by omega), if_neg (by omega), if_neg (by omega)]
    · have h1 : D * Q + D ≤ D * r := by rw [← Nat.mul_succ]; exact Nat.mul_le_mul_left D h
      rw [if_neg (by omega), if_neg (by omega), if_neg (by omega), if_neg (by omega)]
theorem stk_rest (A d j : Nat) : restC (stk A d % 2 ^ (j + 2)) (2 ^ (j + 2)) = restC (A % 2 ^ (d + (j + 1))) (2 ^ (d + (j + 1))) := by
  have hD : 0 < 2 ^ d := Nat.pow_pos (by omega)
  have hQ : 0 < 2 ^ j := Nat.pow_pos (by omega)
  have eP : 2 ^ (j + 1 + 1) = 4 * 2 ^ j := by rw [Nat.pow_succ, Nat.pow_succ]; omega
  have eP2 : 2 ^ (d + (j + 1)) = 2 * (2 ^ d * 2 ^ j) := by rw [Nat.pow_add, Nat.pow_succ, ← Nat.mul_assoc]; omega
  have e1 := stk_mod A d (j + 1)
  have e2 := all_mod A d (j + 1)
  rw [show j + 2 = (j + 1) + 1 by omega, e1, e2, eP, eP2]
  exact rest_core (Nat.mod_lt A hD) hQ (stk_bit A d) (by split <;> omega)
theorem stk_rq (m : Int) (neg : Bool) (A d j : Nat) : rq m neg (stk A d) (j + 2) = rq m neg A (d + (j + 1)) := by
  unfold rq
  rw [stk_rest, show j + 2 = (j + 1) + 1 by omega, stk_div]
theorem stk_toQ (m : Int) (neg : Bool) (A d : Nat) {F e : Int} (h : F + d + 1 ≤ e) : toQ m neg (stk A d) (F + d - 1) e = toQ m neg A F e := by
  obtain ⟨j, hj⟩ : ∃ j : Nat, e = F + d + 1 + j := ⟨(e - (F + d + 1)).toNat, by omega⟩
  unfold toQ
  rw [if_neg (by omega), if_neg (by omega), show (e - (F + d - 1)).toNat = j + 2 by omega, show (e - F).toNat = d + (j + 1) by omega, stk_rq]
theorem stk_toL (A d : Nat) {F e : Int} (h : F + d + 1 ≤ e) : toL (stk A d) (F + d - 1) e = toL A F e := by
  obtain ⟨j, hj⟩ : ∃ j : Nat, e = F + d + 1 + j := ⟨(e - (F + d + 1)).toNat, by omega⟩
  unfold toL
  rw [if_neg (by omega), if_neg (by omega), show (e - (F + d - 1)).toNat = j + 1 + 1 by omega, show (e - F).toNat = d + (j + 1) by omega]
  congr 1
  simp only [ne_eq, eq_iff_iff]
  exact not_congr (stk_zero A d (j + 1))
theorem stk_len {A d : Nat} (h : A / 2 ^ d ≠ 0) : bitLen (stk A d) = bitLen (A / 2 ^ d) + 1 := by
  have e : stk A d / 2 ^ 1 = A / 2 ^ d := by
    have := stk_div A d 0
    simpa using this
  rw [bitLen_shift (stk A d) 1 (by rw [e]; exact h), e]
  omega
theorem stk_lgN {A d : Nat} {F : Int} (h : A / 2 ^ d ≠ 0) : lgN (stk A d) (F + d - 1) = lgN A F := by
  have e := bitLen_shift A d h
  unfold lgN
  rw [stk_len h]
  omega
theorem stk_round {m : Int} {neg : Bool} {A d : Nat} {F : Int} (h : A % 2 ^ d = 0 ∨ 54 ≤ bitLen (A / 2 ^ d)) : rnP m neg (stk A d) (F + d - 1) = rnP m neg A F ∧ rnF m neg (stk A d) (F + d - 1) = rnF m neg A F := by
  by_cases h0 : A % 2 ^ d = 0
  · have e1 : stk A d = A / 2 ^ d * 2 ^ 1 := by unfold stk; rw [if_pos h0]; omega
    have e2 : A = A / 2 ^ d * 2 ^ d := by
      have := Nat.div_add_mod A (2 ^ d)
      rw [h0, Nat.mul_comm] at this
      omega
    have p1 := rnP_scale m neg (A / 2 ^ d) 1 (F + d)
    have p2 := rnP_scale m neg (A / 2 ^ d) d (F + d)
    have f1 := rnF_scale m neg (A / 2 ^ d) 1 (F + d)
    have f2 := rnF_scale m neg (A / 2 ^ d) d (F + d)
    rw [show F + (d : Int) - ((1 : Nat) : Int) = F + d - 1 by omega, ← e1] at p1 f1
    rw [show F + (d : Int) - (d : Int) = F by omega, ← e2] at p2 f2
    exact ⟨by rw [p1, p2], by rw [f1, f2]⟩
  · have hb : 54 ≤ bitLen (A / 2 ^ d) := by exact h.resolve_left h0
    have hq : A / 2 ^ d ≠ 0 := fun h => by rw [h] at hb; simp [bitLen] at hb
    have hA : A ≠ 0 := fun h => h0 (by rw [h]; simp)
    have hs : stk A d ≠ 0 := by unfold stk; omega
    have hl := stk_lgN (F := F) hq
    have hlw : lowE (stk A d) (F + d - 1) = lowE A F := by unfold lowE; rw [hl]
    have hlg : lgN A F = F + d + bitLen (A / 2 ^ d) - 1 := by rw [← hl]; unfold lgN; rw [stk_len hq]; omega
    have hge : F + d + 1 ≤ lowE A F := by unfold lowE; split <;> omega
    have hp : p0 m neg (stk A d) (F + d - 1) = p0 m neg A F := by unfold p0; rw [hlw, stk_toQ m neg A d hge]
    have ht : tiny m neg (stk A d) (F + d - 1) = tiny m neg A F := by
      unfold tiny
      rw [hl]
      by_cases hn : lgN A F = -1023
      · rw [if_pos hn, if_pos hn, stk_toQ m neg A d (by omega)]
      · rw [if_neg hn, if_neg hn]
    unfold rnP rnF
    rw [if_neg hs, if_neg hA, if_neg hs, if_neg hA, hp, hlw, stk_toL A d hge, ht]
    exact ⟨rfl, rfl⟩
end Go.Rn
namespace Go.Rn
open Go.Nt Go.Wd Go.Pt
/-! ### patterns -/
theorem xp_bd (p : Int) : -1074 ≤ xp p ∧ xp p ≤ 972 := by
  have := ex_lt p
  unfold xp
  split
  · omega
  · split <;> omega
theorem sg_lt (p : Int) : 0 ≤ sg p ∧ sg p < 9007199254740992 := by
  have := fr_lt p
  unfold sg
  split
  · omega
  · split <;> omega
/-- a number's quotient, with a last bit for what is left -/
def dvK (A B k : Nat) : Nat := 2 * (A * 2 ^ k / B) + (if A * 2 ^ k % B = 0 then 0 else 1)
theorem mod_scale {A B : Nat} (k : Nat) : A * 2 ^ k % (B * 2 ^ k) = A % B * 2 ^ k := Nat.mul_mod_mul_right (2 ^ k) A B
theorem dvK_div (A B k j : Nat) : dvK A B (k + j) / 2 ^ (j + 1) = A * 2 ^ k / B := by
  have hp : 0 < 2 ^ j := Nat.pow_pos (by omega)
  have e1 : A * 2 ^ (k + j) / B / 2 ^ j = A * 2 ^ k / B := by
    rw [Nat.div_div_eq_div_mul, Nat.pow_add, ← Nat.mul_assoc, Nat.mul_div_mul_right _ _ hp]
  have : dvK A B (k + j) / 2 = A * 2 ^ (k + j) / B := by unfold dvK; split <;> omega
  rw [Nat.pow_succ, Nat.mul_comm (2 ^ j) 2, ← Nat.div_div_eq_div_mul, this, e1]
theorem dvK_stk (A B k j : Nat) : stk (dvK A B (k + j)) (j + 1) = dvK A B k := by
  have hp : 0 < 2 ^ j := Nat.pow_pos (by omega)
  have e1 : A * 2 ^ (k + j) / B / 2 ^ j = A * 2 ^ k / B := by
    rw [Nat.div_div_eq_div_mul, Nat.pow_add, ← Nat.mul_assoc, Nat.mul_div_mul_right _ _ hp]
  have e2 := dvK_div A B k j
  have e3 : dvK A B (k + j) % 2 ^ (j + 1) = 0 ↔ A * 2 ^ k % B = 0 := by
    have d2 : dvK A B (k + j) / 2 = A * 2 ^ (k + j) / B := by unfold dvK; split <;> omega
    have m2 : dvK A B (k + j) % 2 = if A * 2 ^ (k + j) % B = 0 then 0 else 1 := by unfold dvK; split <;> omega
    rw [Nat.pow_succ, Nat.mul_comm (2 ^ j) 2, Nat.mod_mul, d2, m2]
    have e : A * 2 ^ (k + j) % B + B * (A * 2 ^ (k + j) / B % 2 ^ j) = A * 2 ^ k % B * 2 ^ j := by
      rw [← Nat.mod_mul, ← mod_scale, Nat.mul_assoc, ← Nat.pow_add]
    constructor
    · intro h
      have h1 : A * 2 ^ (k + j) % B = 0 := by
        by_cases h0 : A * 2 ^ (k + j) % B = 0
        · exact h0
        · rw [if_neg h0] at h; omega
      have h2 : A * 2 ^ (k + j) / B % 2 ^ j = 0 := by omega
      rw [h1, h2, Nat.mul_zero] at e
      rcases Nat.mul_eq_zero.1 e.symm with h3 | h3
      · exact h3
      · omega
    · intro h
      rw [h, Nat.zero_mul] at e
      have h1 : A * 2 ^ (k + j) % B = 0 := by omega
      rw [if_pos h1]
      rcases Nat.mul_eq_zero.1 (show B * (A * 2 ^ (k + j) / B % 2 ^ j) = 0 by omega) with h2 | h2
      · rw [h2, Nat.div_zero, Nat.zero_mod]
      · rw [h2]
  unfold stk
  rw [e2]
  by_cases h : A * 2 ^ k % B = 0
  · rw [if_pos (e3.2 h)]; unfold dvK; rw [if_pos h]
  · rw [if_neg (fun h' => h (e3.1 h'))]; unfold dvK; rw [if_neg h]
/-! ### roots -/
end Go.Rn
namespace Go.Rd
/-- a letter as a digit, -1 if it is none -/
def dgvR (c b : Int) : Int := if 48 ≤ c ∧ c ≤ 57 then c - 48 else if b = 16 ∧ 97 ≤ c ∧ c ≤ 102 then c - 87 else -1
/-- a letter's number -/
def lq8 (c : UInt8) : Int := ((c.toNat : Nat) : Int)
/-- all letters are digits -/
def allB (b : Int) (l : List UInt8) : Bool := l.all fun c => decide (0 ≤ dgvR (lq8 c) b)
/-- the number of digits -/
def nmB (b : Int) (l : List UInt8) : Nat := l.foldl (fun a c => a * b.toNat + (dgvR (lq8 c) b).toNat) 0
/-- the digits at a text's begin, how many of them are behind the point, what is left -/
def sc1 (b : Int) : Bool → List UInt8 → List UInt8 × Nat × List UInt8
  | _, [] => ([], 0, [])
  | p, c :: l =>
    if lq8 c = 46 ∧ p = false then sc1 b true l
    else if 0 ≤ dgvR (lq8 c) b then (c :: (sc1 b p l).1, (if p = true then 1 else 0) + (sc1 b p l).2.1, (sc1 b p l).2.2)
    else ([], 0, c :: l)
theorem nmB_snoc (b : Int) (l : List UInt8) (c : UInt8) : nmB b (l ++ [c]) = nmB b l * b.toNat + (dgvR (lq8 c) b).toNat := by
  unfold nmB
  rw [List.foldl_append]
  rfl
open Go.Rn
/-- how far a number is moved up ahead of a division -/
def upN (A B : Nat) : Nat := ((bitLen B : Int) - (bitLen A : Int) + 80).toNat
theorem up_big {A B : Nat} (hA : A ≠ 0) : 2 ^ 79 * B ≤ A * 2 ^ upN A B := by
  have h1 := (bitLen_spec A).2 hA
  have h2 := (bitLen_spec B).1
  have h3 := len_pos hA
  have h4 : bitLen B + 80 ≤ upN A B + bitLen A := by unfold upN; omega
  refine Nat.le_trans (Nat.mul_le_mul_left _ (Nat.le_of_lt h2)) ?_
  rw [← Nat.pow_add]
  refine Nat.le_trans (Nat.pow_le_pow_right (by omega) (show 79 + bitLen B ≤ (bitLen A - 1) + upN A B by omega)) ?_
  rw [Nat.pow_add]
  exact Nat.mul_le_mul_right _ h1
/-! ### the whole -/
end Go.Rd
namespace Go.Rd
open Go.Rn
/-- a quotient with more bits is rounded the same -/
theorem dvK_more {m E : Int} {n : Bool} {A B k : Nat} (j : Nat) (h : 54 ≤ bitLen (A * 2 ^ k / B)) : rnP m n (dvK A B k) (E + j) = rnP m n (dvK A B (k + j)) E ∧ rnF m n (dvK A B k) (E + j) = rnF m n (dvK A B (k + j)) E := by
  have r := stk_round (m := m) (neg := n) (A := dvK A B (k + j)) (d := j + 1) (F := E) (.inr (by rw [dvK_div]; exact h))
  rw [dvK_stk, show E + ((j + 1 : Nat) : Int) - 1 = E + (j : Int) by omega] at r
  exact r
/-- any two with bits enough -/
theorem dvK_any {m : Int} {n : Bool} {A B k j : Nat} (h : 54 ≤ bitLen (A * 2 ^ k / B)) (h' : 54 ≤ bitLen (A * 2 ^ j / B)) : rnP m n (dvK A B k) (-(k : Int) - 1) = rnP m n (dvK A B j) (-(j : Int) - 1) ∧ rnF m n (dvK A B k) (-(k : Int) - 1) = rnF m n (dvK A B j) (-(j : Int) - 1) := by
  rcases Nat.le_total k j with hk | hk
  · have r := dvK_more (m := m) (n := n) (E := -(j : Int) - 1) (j - k) h
    rw [show k + (j - k) = j by omega, show -(j : Int) - 1 + ((j - k : Nat) : Int) = -(k : Int) - 1 by omega] at r
    exact r
  · have r := dvK_more (m := m) (n := n) (E := -(k : Int) - 1) (k - j) h'
    rw [show j + (k - j) = k by omega, show -(k : Int) - 1 + ((k - j : Nat) : Int) = -(j : Int) - 1 by omega] at r
    exact ⟨r.1.symm, r.2.symm⟩
theorem upN_bits {A B : Nat} (hA : A ≠ 0) (hB : B ≠ 0) : 80 ≤ bitLen (A * 2 ^ upN A B / B) := by
  refine le_len (k := 79) ?_
  rw [Nat.le_div_iff_mul_le (by omega)]
  exact up_big hA
/-- A / B, rounded: the pattern, the flags -/
def rqP (m : Int) (n : Bool) (A B : Nat) : Int := rnP m n (dvK A B (upN A B)) (-((upN A B : Nat) : Int) - 1)
def rqF (m : Int) (n : Bool) (A B : Nat) : Int := rnF m n (dvK A B (upN A B)) (-((upN A B : Nat) : Int) - 1)
/-- any quotient with bits enough is rounded so -/
theorem rq_any {m : Int} {n : Bool} {A B k : Nat} (hA : A ≠ 0) (hB : B ≠ 0) (h : 54 ≤ bitLen (A * 2 ^ k / B)) : rnP m n (dvK A B k) (-(k : Int) - 1) = rqP m n A B ∧ rnF m n (dvK A B k) (-(k : Int) - 1) = rqF m n A B :=
  dvK_any h (Nat.le_trans (by omega) (upN_bits hA hB))
theorem dvK_scale {A B c : Nat} (hc : 0 < c) (k : Nat) : dvK (A * c) (B * c) k = dvK A B k := by
  unfold dvK
  have e : A * c * 2 ^ k = A * 2 ^ k * c := by rw [Nat.mul_assoc, Nat.mul_comm c, ← Nat.mul_assoc]
  rw [e, Nat.mul_div_mul_right _ _ hc, Nat.mul_mod_mul_right]
  by_cases h : A * 2 ^ k % B = 0
  · rw [if_pos h, if_pos (by rw [h, Nat.zero_mul])]
  · rw [if_neg h, if_neg (fun h' => h ((Nat.mul_eq_zero.1 h').resolve_right (by omega)))]
theorem rqd_scale {m : Int} {n : Bool} {A B c : Nat} (hA : A ≠ 0) (hB : B ≠ 0) (hc : 0 < c) : rqP m n (A * c) (B * c) = rqP m n A B ∧ rqF m n (A * c) (B * c) = rqF m n A B := by
  have hA' : A * c ≠ 0 := fun h => (Nat.mul_eq_zero.1 h).elim hA (by omega)
  have hB' : B * c ≠ 0 := fun h => (Nat.mul_eq_zero.1 h).elim hB (by omega)
  have h := upN_bits hA hB
  have e : A * c * 2 ^ upN A B / (B * c) = A * 2 ^ upN A B / B := by rw [Nat.mul_assoc, Nat.mul_comm c, ← Nat.mul_assoc, Nat.mul_div_mul_right _ _ hc]
  obtain ⟨r1, r2⟩ := rq_any (m := m) (n := n) (k := upN A B) hA' hB' (by rw [e]; omega)
  rw [dvK_scale hc] at r1 r2
  exact ⟨r1.symm, r2.symm⟩
/-! ### decimal -/
theorem ten_two {e J i : Nat} (h1 : 28 * i ≤ e) (h2 : J ≤ 93 * i) : 2 ^ J ≤ 10 ^ e := by
  have h : (2 : Nat) ^ 93 ≤ 10 ^ 28 := by decide
  have h3 : ((2 : Nat) ^ 93) ^ i ≤ (10 ^ 28) ^ i := Nat.pow_le_pow_left h i
  rw [← Nat.pow_mul, ← Nat.pow_mul] at h3
  exact Nat.le_trans (Nat.pow_le_pow_right (by omega) h2) (Nat.le_trans h3 (Nat.pow_le_pow_right (by omega) h1))
/-- A times ten to the power of j, rounded -/
def deP (m : Int) (n : Bool) (A : Nat) (j : Int) : Int := rqP m n (A * 10 ^ j.toNat) (10 ^ (-j).toNat)
def deF (m : Int) (n : Bool) (A : Nat) (j : Int) : Int := rqF m n (A * 10 ^ j.toNat) (10 ^ (-j).toNat)
theorem ten_ne (j : Nat) : 10 ^ j ≠ 0 := fun h => by have := Nat.pow_pos (n := j) (show 0 < 10 by omega); omega
theorem mul_ne {A B : Nat} (hA : A ≠ 0) (hB : B ≠ 0) : A * B ≠ 0 := fun h => (Nat.mul_eq_zero.1 h).elim hA hB
/-- noughts behind, and the point moved -/
theorem de_shift (m : Int) (n : Bool) {A : Nat} (hA : A ≠ 0) (c : Nat) (j : Int) : deP m n (A * 10 ^ c) (j - c) = deP m n A j ∧ deF m n (A * 10 ^ c) (j - c) = deF m n A j := by
  obtain ⟨d, hd⟩ : ∃ d : Nat, (-(j - c)).toNat = (-j).toNat + d ∧ c + (j - c).toNat = j.toNat + d := ⟨(-(j - c)).toNat - (-j).toNat, by omega, by omega⟩
  have e1 : A * 10 ^ c * 10 ^ (j - c).toNat = A * 10 ^ j.toNat * 10 ^ d := by rw [Nat.mul_assoc, ← Nat.pow_add, hd.2, Nat.pow_add, Nat.mul_assoc]
  unfold deP deF
  rw [e1, hd.1, Nat.pow_add]
  exact rqd_scale (mul_ne hA (ten_ne _)) (ten_ne _) (Nat.pow_pos (by omega))
/-- with the other sign -/
theorem de_swM (m : Int) (n : Bool) (A : Nat) (j : Int) : deP (swM m) (!n) A j = deP m n A j ∧ deF (swM m) (!n) A j = deF m n A j := by
  unfold deP deF rqP rqF
  rw [rnP_swM, rnF_swM]
  exact ⟨rfl, rfl⟩
def chD (d : Nat) : UInt8 := UInt8.ofNat (48 + d)
/-- the decimal letters of a number below 10^f -/
def decF : Nat → Nat → List UInt8
  | 0, _ => []
  | f + 1, n => if n < 10 then [chD n] else decF f (n / 10) ++ [chD (n % 10)]
def dcL (n : Nat) : List UInt8 := decF 20 n
theorem chD_num {d : Nat} (h : d < 10) : lq8 (chD d) = ((48 + d : Nat) : Int) := by
  unfold lq8 chD
  rw [UInt8.toNat_ofNat']
  omega
theorem chD_dg {d : Nat} (h : d < 10) (b : Int) : dgvR (lq8 (chD d)) b = (d : Int) := by
  rw [chD_num h]
  unfold dgvR
  rw [if_pos (by omega)]
  omega
theorem decF_all (f n : Nat) (b : Int) : allB b (decF f n) = true := by
  induction f generalizing n with
  | zero => rfl
  | succ f ih =>
    unfold decF
    split
    · rename_i h
      unfold allB
      rw [List.all_cons, chD_dg h, decide_eq_true (by omega)]
      rfl
    · unfold allB
      rw [List.all_append]
      have := ih (n / 10)
      unfold allB at this
      rw [this, List.all_cons, chD_dg (show n % 10 < 10 by omega), decide_eq_true (by omega)]
      rfl
theorem decF_num {f n : Nat} (h : n < 10 ^ f) : nmB 10 (decF f n) = n := by
  induction f generalizing n with
  | zero =>
    have : n = 0 := by simpa using h
    rw [this]
    rfl
  | succ f ih =>
    unfold decF
    split
    · rename_i h1
      show (0 * (10 : Int).toNat + (dgvR (lq8 (chD n)) 10).toNat) = n
      rw [chD_dg h1]
      omega
    · rw [nmB_snoc, ih (by rw [Nat.pow_succ] at h; omega), chD_dg (show n % 10 < 10 by omega), show (10 : Int).toNat = 10 from rfl]
      omega
theorem decF_len (f n : Nat) : (decF f n).length ≤ f := by
  induction f generalizing n with
  | zero => exact Nat.le_refl _
  | succ f ih =>
    unfold decF
    split
    · rw [List.length_singleton]; omega
    · rw [List.length_append, List.length_singleton]
      have := ih (n / 10)
      omega
theorem dcL_lt {n : Nat} (h : n < 18446744073709551616) : n < 10 ^ 20 := Nat.lt_trans h (by decide)
theorem dg46 (b : Int) : dgvR 46 b = -1 := by
  unfold dgvR
  rw [if_neg (by omega), if_neg (by omega)]
theorem sc1_app {b : Int} {A : List UInt8} (h : allB b A = true) (p : Bool) (r : List UInt8) : sc1 b p (A ++ r) = (A ++ (sc1 b p r).1, (if p = true then A.length else 0) + (sc1 b p r).2.1, (sc1 b p r).2.2) := by
  induction A with
  | nil => simp
  | cons c A ih =>
    unfold allB at h ih
    rw [List.all_cons, Bool.and_eq_true] at h
    have h1 := of_decide_eq_true h.1
    have h46 : lq8 c ≠ 46 := fun h' => by rw [h', dg46] at h1; omega
    rw [List.cons_append, sc1, if_neg (fun h' => h46 h'.1), if_pos h1, ih h.2]
    cases p <;> simp <;> omega
/-! ### letters that lead -/
theorem digit_letter {c : UInt8} (h : 0 ≤ dgvR (lq8 c) 10) : 48 ≤ lq8 c ∧ lq8 c ≤ 57 := by
  unfold dgvR at h
  split at h
  · assumption
  · rw [if_neg (by omega)] at h
    omega
/-! ### a power behind the digits -/
def expL (x : Int) : List UInt8 := if x < 0 then 45 :: dcL x.natAbs else dcL x.natAbs
/-! ### letters -/
/-! ### digits with a point -/
/-! ### powers, cut -/
/-! ### noughts behind -/
def trR (l : List UInt8) : List UInt8 := (l.reverse.dropWhile fun c => lq8 c == 48).reverse
theorem trR_nil : trR [] = [] := rfl
theorem trR_snoc (l : List UInt8) (c : UInt8) : trR (l ++ [c]) = if lq8 c = 48 then trR l else l ++ [c] := by
  unfold trR
  rw [List.reverse_append, List.reverse_singleton, List.singleton_append, List.dropWhile_cons]
  by_cases h : lq8 c = 48
  · rw [if_pos (by simpa using h), if_pos h]
  · rw [if_neg (by simpa using h), if_neg h, List.reverse_cons, List.reverse_reverse]
theorem snoc_ind {P : List UInt8 → Prop} (h0 : P []) (h1 : ∀ l c, P l → P (l ++ [c])) (l : List UInt8) : P l := by
  have key : ∀ k (l : List UInt8), l.length = k → P l := by
    intro k
    induction k with
    | zero => intro l hl; rw [List.eq_nil_of_length_eq_zero hl]; exact h0
    | succ k ih =>
      intro l hl
      have hne : l ≠ [] := fun h => by rw [h] at hl; cases hl
      rw [← List.dropLast_concat_getLast hne]
      exact h1 _ _ (ih _ (by rw [List.length_dropLast]; omega))
  exact key _ l rfl
theorem trR_len (l : List UInt8) : (trR l).length ≤ l.length := by
  unfold trR
  rw [List.length_reverse]
  have := (List.dropWhile_sublist (l := l.reverse) fun c => lq8 c == 48).length_le
  rw [List.length_reverse] at this
  exact this
theorem nmB_trR {b : Int} (l : List UInt8) : nmB b l = nmB b (trR l) * b.toNat ^ (l.length - (trR l).length) := by
  refine snoc_ind (P := fun l => nmB b l = nmB b (trR l) * b.toNat ^ (l.length - (trR l).length)) ?_ ?_ l
  · rfl
  · intro l c ih
    rw [trR_snoc]
    by_cases h : lq8 c = 48
    · have hd : (dgvR 48 b).toNat = 0 := by unfold dgvR; rw [if_pos (by omega)]; rfl
      have := trR_len l
      rw [if_pos h, nmB_snoc, h, hd, Nat.add_zero, ih, Nat.mul_assoc, ← Nat.pow_succ, List.length_append, List.length_singleton]
      congr 2
      omega
    · rw [if_neg h, Nat.sub_self, Nat.pow_zero, Nat.mul_one]
/-! ### digits cut -/
end Go.Rd
namespace Go.Rd
open Go.Rn Go.Nt
theorem words_pow (k : Nat) : (4294967296 : Nat) ^ k = 2 ^ (32 * k) := by rw [Nat.pow_mul]
/-! ### a numeral as a number -/
end Go.Rd
namespace Go.Proofs.YtgefjidphfdhdaaGreatDoor.Na
open Go.KRun Go.Nt Go.Rd
set_option maxRecDepth 100000
theorem lt_w32 (V : Nat) : V < 4294967296 ^ (d32 V).length := by
  have := vb_lt (b := 4294967296) (by omega) (d32 V) (d32_wds V)
  rw [show vb 4294967296 (d32 V) = V from vb_db (by omega) V] at this
  exact this
theorem low_w32 {V : Nat} (h : 0 < (d32 V).length) : 4294967296 ^ ((d32 V).length - 1) ≤ V := by
  rcases Nat.lt_or_ge V (4294967296 ^ ((d32 V).length - 1)) with h1 | h1
  · have : (d32 V).length ≤ (d32 V).length - 1 := db_len (b := 4294967296) (by omega) _ _ h1
    omega
  · exact h1
theorem pos_w32 {V : Nat} (h : V ≠ 0) : 0 < (d32 V).length := (db_pos_len (b := 4294967296) (by omega)).2 (by omega)
theorem lenN_bits {V : Nat} (h0 : V ≠ 0) (h : (d32 V).length ≤ 8192) : lenN (d32 V) = ((bitLen V : Nat) : Int) := by
  have hp := pos_w32 h0
  have hc := d32_canon V
  obtain ⟨L, hL⟩ : ∃ L, L = d32 V := ⟨_, rfl⟩
  have eV : vb 4294967296 L = V := by rw [hL]; exact vb_db (by omega) V
  rw [← hL] at hp hc h ⊢
  have hb : badL L = false := by
    unfold badL
    rw [decide_eq_false (by omega), Bool.false_or]
    rcases hc.2 with h0 | h0
    · omega
    · rw [beq_eq_false_iff_ne.2 h0, Bool.and_false]
  have e1 : lenN L = 32 * ((L.length - 1 : Nat) : Int) + (bitLen (L.getD (L.length - 1) 0).toNat : Nat) := by
    unfold lenN
    rw [hb, beq_eq_false_iff_ne.2 (show L.length ≠ 0 by omega)]
    rfl
  have ht := vb_take 4294967296 L (L.length - 1)
  rw [show L.length - 1 + 1 = L.length by omega, List.take_length, eV] at ht
  have lo : vb 4294967296 (L.take (L.length - 1)) < 4294967296 ^ (L.length - 1) := by
    have h1 := vb_lt (b := 4294967296) (by omega) (L.take (L.length - 1)) (fun x hx => hc.1 x (List.mem_of_mem_take hx))
    rw [List.length_take, Nat.min_eq_left (by omega)] at h1
    exact h1
  have hpw : 0 < 4294967296 ^ (L.length - 1) := Nat.pow_pos (by omega)
  have htop : (L.getD (L.length - 1) 0).toNat ≠ 0 := by
    have hlt : L.length - 1 < L.length := by omega
    have hw := hc.1 (L.getD (L.length - 1) 0) (by simp [List.getD, List.getElem?_eq_getElem hlt])
    rcases hc.2 with h1 | h1
    · omega
    · have : L.getD (L.length - 1) 0 ≠ 0 := h1
      omega
  have hdiv : V / 2 ^ (32 * (L.length - 1)) = (L.getD (L.length - 1) 0).toNat := by
    rw [← words_pow, ht, Nat.add_comm, Nat.mul_add_div hpw, Nat.div_eq_of_lt lo, Nat.add_zero]
  have hs := bitLen_shift V (32 * (L.length - 1)) (by rw [hdiv]; exact htop)
  rw [hdiv] at hs
  rw [e1, hs]
  omega
section
variable {H : Hp} {p q : Option Addr} {n c n' c' V W : Nat}
theorem rShl (h : IsR H p n c V) (k : Nat) : decide (shlR (rowOf H p n) ((k : Nat) : Int).toNat = dg (sM n (k : Nat)) ((V * 2 ^ k : Nat) : Int)) = true := by
  refine decide_eq_true ?_
  unfold shlR sM
  rw [h.2.2.1, ← h.2.2.2.1, vN_d32, Int.toNat_natCast, Int.natCast_mul, Go.Wd.cast_pow]
theorem rBadK (h : IsR H p n c V) (k : Nat) : (badL (rowOf H p n) || decide (((k : Nat) : Int) < 0)) = false := by
  rw [h.good, decide_eq_false (by omega)]
  rfl
theorem rFew (h : IsR H p n c V) (h0 : V ≠ 0) {k : Nat} (hk : k ≤ 200000) : decide (((k : Nat) : Int) > 262144 - lenN (rowOf H p n)) = false := by
  have hn := h.2.2.2.2
  have hl := h.2.2.2.1
  rw [h.2.2.1, lenN_bits h0 (by omega)]
  have : bitLen V ≤ 32 * n := Go.Rn.len_le (by rw [← words_pow]; rw [hl]; exact lt_w32 V)
  exact decide_eq_false (by omega)
theorem rNe (h : IsR H p n c V) (h0 : V ≠ 0) : decide (n = 0) = false := by
  have := pos_w32 h0
  have := h.2.2.2.1
  exact decide_eq_false (by omega)
end
theorem shl_lt {V k n : Nat} (h : V < 4294967296 ^ n) : V * 2 ^ k < 4294967296 ^ sM n (k : Nat) := by
  unfold sM
  rw [Int.toNat_natCast, Nat.add_comm (k / 32), words_pow]
  rw [words_pow] at h
  have h2 : (2 : Nat) ^ k < 2 ^ (32 * (k / 32 + 1)) := Nat.pow_lt_pow_right (by omega) (by omega)
  have := Nat.mul_lt_mul'' h h2
  rw [← Nat.pow_add] at this
  rw [show 32 * (n + 1 + k / 32) = 32 * n + 32 * (k / 32 + 1) by omega]
  exact this
theorem quo_lt {S P : Nat} (hP : P ≠ 0) (hS : (d32 P).length ≤ (d32 S).length) : S / P < 4294967296 ^ ((d32 S).length - (d32 P).length + 1) := by
  have h1 := lt_w32 S
  have h2 := low_w32 (pos_w32 hP)
  have h3 := pos_w32 hP
  rw [Nat.div_lt_iff_lt_mul (by omega)]
  refine Nat.lt_of_lt_of_le h1 ?_
  refine Nat.le_trans ?_ (Nat.mul_le_mul_left _ h2)
  rw [← Nat.pow_add]
  exact Nat.pow_le_pow_right (by omega) (by omega)
theorem le_w32 {S P : Nat} (h : P ≤ S) : (d32 P).length ≤ (d32 S).length := db_len (b := 4294967296) (by omega) _ _ (Nat.lt_of_le_of_lt h (lt_w32 S))
theorem ten_w32 (k : Nat) : (10 : Nat) ^ k < 4294967296 ^ (k / 9 + 1) := by
  refine Nat.lt_of_le_of_lt (Nat.pow_le_pow_right (by omega) (show k ≤ 9 * (k / 9 + 1) by omega)) ?_
  rw [Nat.pow_mul]
  exact Nat.pow_lt_pow_left (by decide) (by omega)
end Go.Proofs.YtgefjidphfdhdaaGreatDoor.Na
