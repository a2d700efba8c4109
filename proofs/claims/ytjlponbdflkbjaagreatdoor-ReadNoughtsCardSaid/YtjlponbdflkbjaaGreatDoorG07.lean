/-
  Hcs, Okl, NumZ, NumU, NumY, NumN, NumV, NumW, NumS, Num, Num2, NumX4, NumR4, NumR5
-/
import Derived.Test.YtjlponbdflkbjaaGreatDoorG06
import Derived.Test.YtjlponbdflkbjaaGreatDoorG01
import GoSem.Core.Sem
import Derived.Laws.MathBits
namespace Go.Proofs.YtjlponbdflkbjaaGreatDoor
open Go.KRun
set_option maxRecDepth 100000
theorem okOne {p : Bool × Bool} (h : p.1 = p.2) : okLog [p] := fun x hx => by rw [List.mem_singleton.1 hx]; exact h
theorem okTwo {p : Bool × Bool} {l : Log} (h : p.1 = p.2) (hl : okLog l) : okLog (p :: l) := fun x hx => by
  rcases List.mem_cons.1 hx with rfl | hx
  · exact h
  · exact hl x hx
theorem wrapI {n : Int} (h0 : -9223372036854775808 ≤ n) (h1 : n ≤ 9223372036854775807) : IntKind.i64.wrap n = n := by
  simp [IntKind.wrap, IntKind.bits, IntKind.signed]; omega
/-! ### what is known of calls with rows -/
abbrev Hc := Nat → List Value → Hp → List Dec → Option (Value × Hp × List Dec × Log)
abbrev AnsH := List Value → Hp → List Dec → Option (Value × Hp × List Dec × Log)
def AnsHOk (f : Nat) (g : AnsH) : Prop := ∀ vals h s v h' s' lg, g vals h s = some (v, h', s', lg) → okLog lg → ∀ m B w, Emb m B h w → (∀ v ∈ vals, lt h.n v = true) → Calls Tryz.prog f (vals.map (mv m)).toArray w fun e w' => ∃ m', e = .returned (mv m' v) ∧ Came m B h w v h' m' w'
structure HcOk (hc : Hc) : Prop where
  fn : ∀ f vals h s r, hc f vals h s = some r → ∃ F, Tryz.prog.funcs[f]? = some F ∧ F.body.isSome = true
  calls : ∀ f, AnsHOk f (hc f)
def hcN : Hc := fun _ _ _ _ => none
theorem hcN_ok : HcOk hcN := ⟨fun _ _ _ _ _ h => (by cases h), fun _ _ _ _ _ _ _ _ h => (by cases h)⟩
def altH (f : Nat) (g : AnsH) (hc : Hc) : Hc := fun f' vals h s => if Nat.beq f' f = true then g vals h s else hc f' vals h s
theorem altH_ok {f : Nat} {F : Func} (hF : Tryz.prog.funcs[f]? = some F) (hb : F.body.isSome = true) {g : AnsH} (hg : AnsHOk f g) {hc : Hc} (h : HcOk hc) : HcOk (altH f g hc) where
  fn := fun f' vals h' s r hr => by
    unfold altH at hr
    split at hr
    · rename_i e
      rw [Nat.eq_of_beq_eq_true e]
      exact ⟨F, hF, hb⟩
    · exact h.fn _ _ _ _ _ hr
  calls := fun f' vals h' s v h'' s' lg hr => by
    unfold altH at hr
    split at hr
    · rename_i e
      rw [Nat.eq_of_beq_eq_true e]
      exact hg _ _ _ _ _ _ _ hr
    · exact h.calls f' _ _ _ _ _ _ _ hr
def tabH (P : Program) (ext : Nat → List Value → Option (Value × Log)) (con : Con) (hc : Hc) : Tab := { P := P, fn := fun f => P.funcs[f]?, ext := ext, con := con, sym := true, hc := hc }
theorem tabH_ok {con : Con} (h : ConOk con) {hc : Hc} (hh : HcOk hc) : TabOk (tabH Tryz.prog extY con hc) where
  mixed := mixed
  ext := extY_ok
  con := fun f vals s v s' lg hc hl => ⟨by obtain ⟨F, h1, h2⟩ := h.fn f vals s v s' lg hc; exact ⟨F, (fns_ok f F h1).1, (fns_ok f F h1).2, h2⟩, h.calls f vals s v s' lg hc hl⟩
  fn := fns_ok
  hc := fun f vals h0 s v h' s' lg hr hl => ⟨by obtain ⟨F, h1, h2⟩ := hh.fn f vals h0 s _ hr; exact ⟨F, (fns_ok f F h1).1, (fns_ok f F h1).2, h2⟩, hh.calls f vals h0 s v h' s' lg hr hl⟩
end Go.Proofs.YtjlponbdflkbjaaGreatDoor
namespace Go.Proofs.YtjlponbdflkbjaaGreatDoor
open Go.KRun
theorem okL1 {a b : Bool} (h : a = b) : okLog [(a, b)] := fun p hp => by rw [List.mem_singleton.1 hp]; exact h
theorem okCons {a b : Bool} {l : Log} (h : a = b) (hl : okLog l) : okLog ((a, b) :: l) := fun p hp => by
  rcases List.mem_cons.1 hp with rfl | hp
  · exact h
  · exact hl p hp
theorem okCs {a b : Bool} {l : Log} : okLog ((a, b) :: l) ↔ a = b ∧ okLog l := ⟨fun h => ⟨h _ (List.mem_cons_self), fun x hx => h x (List.mem_cons_of_mem _ hx)⟩, fun h => okCons h.1 h.2⟩
theorem okNl : okLog [] := fun x hx => by cases hx
end Go.Proofs.YtjlponbdflkbjaaGreatDoor
namespace Go.Rn
/-- whether it goes up: c: what is beyond a multiple: 0 nothing, 1 below a half, 2 a half, 3 above it -/
def upR (m : Int) (neg odd : Bool) (c : Int) : Bool :=
  if c = 0 then false else if m = 2 then false else if m = 3 then !neg else if m = 4 then neg else if m = 1 then decide (2 ≤ c) else decide (2 < c) || (decide (c = 2) && odd)
def restC (r P : Nat) : Int := if r = 0 then 0 else if 2 * r < P then 1 else if 2 * r = P then 2 else 3
def odd (q : Nat) : Bool := decide (q % 2 = 1)
def rq (m : Int) (neg : Bool) (T k : Nat) : Nat := T / 2 ^ k + (if upR m neg (odd (T / 2 ^ k)) (restC (T % 2 ^ k) (2 ^ k)) = true then 1 else 0)
def toQ (m : Int) (neg : Bool) (T : Nat) (E e : Int) : Nat := if e ≤ E then T * 2 ^ (E - e).toNat else rq m neg T (e - E).toNat
def toL (T : Nat) (E e : Int) : Bool := if e ≤ E then false else decide (T % 2 ^ (e - E).toNat ≠ 0)
def lgN (T : Nat) (E : Int) : Int := E + (bitLen T : Nat) - 1
def lowE (T : Nat) (E : Int) : Int := if lgN T E - 52 ≤ -1074 then -1074 else lgN T E - 52
/-- the pattern, as if there were no greatest -/
def p0 (m : Int) (neg : Bool) (T : Nat) (E : Int) : Int := (lowE T E + 1074) * 4503599627370496 + (toQ m neg T E (lowE T E) : Nat)
def tiny (m : Int) (neg : Bool) (T : Nat) (E : Int) : Bool := if lgN T E = -1023 then decide (toQ m neg T E (-1075) < 9007199254740992) else decide (lgN T E < -1022)
def bey (m : Int) (neg : Bool) : Int := if upR m neg true 3 = true then 9218868437227405312 else 9218868437227405311
def rnP (m : Int) (neg : Bool) (T : Nat) (E : Int) : Int := if T = 0 then 0 else if 9218868437227405312 ≤ p0 m neg T E then bey m neg else p0 m neg T E
def rnF (m : Int) (neg : Bool) (T : Nat) (E : Int) : Int := if T = 0 then 0 else if 9218868437227405312 ≤ p0 m neg T E then 20 else if toL T E (lowE T E) = true then (if tiny m neg T E = true then 24 else 16) else 0
/-! ### the two signs -/
/-! ### bits -/
theorem len_pos {T : Nat} (h : T ≠ 0) : 1 ≤ bitLen T := by unfold bitLen; rw [if_neg h]; omega
theorem len_uniq {T k : Nat} (h0 : 2 ^ k ≤ T) (h1 : T < 2 ^ (k + 1)) : bitLen T = k + 1 := by
  have hp : 0 < 2 ^ k := Nat.pow_pos (by omega)
  obtain ⟨a1, a2⟩ := bitLen_spec T
  have a2 := a2 (by omega)
  have a3 := len_pos (show T ≠ 0 by omega)
  rcases Nat.lt_or_ge (bitLen T) (k + 1) with h | h
  · have := Nat.pow_le_pow_right (show 0 < 2 by omega) (show bitLen T ≤ k by omega)
    omega
  · rcases Nat.lt_or_ge (k + 1) (bitLen T) with h' | h'
    · have := Nat.pow_le_pow_right (show 0 < 2 by omega) (show k + 1 ≤ bitLen T - 1 by omega)
      omega
    · omega
theorem len_le {T k : Nat} (h : T < 2 ^ k) : bitLen T ≤ k := by
  by_cases h0 : T = 0
  · subst h0; simp [bitLen]
  · have a2 := (bitLen_spec T).2 h0
    rcases Nat.lt_or_ge k (bitLen T) with h' | h'
    · have := Nat.pow_le_pow_right (show 0 < 2 by omega) (show k ≤ bitLen T - 1 by omega)
      omega
    · exact h'
theorem le_len {T k : Nat} (h : 2 ^ k ≤ T) : k + 1 ≤ bitLen T := by
  have a1 := (bitLen_spec T).1
  rcases Nat.lt_or_ge (bitLen T) (k + 1) with h' | h'
  · have := Nat.pow_le_pow_right (show 0 < 2 by omega) (show bitLen T ≤ k by omega)
    omega
  · exact h'
theorem len_mul {T : Nat} (h : T ≠ 0) (j : Nat) : bitLen (T * 2 ^ j) = bitLen T + j := by
  have hp : 0 < 2 ^ j := Nat.pow_pos (by omega)
  obtain ⟨a1, a2⟩ := bitLen_spec T
  have a2 := a2 h
  have a3 := len_pos h
  have e : bitLen T + j = (bitLen T - 1 + j) + 1 := by omega
  rw [e]
  apply len_uniq
  · rw [Nat.pow_add]; exact Nat.mul_le_mul_right _ a2
  · rw [show bitLen T - 1 + j + 1 = bitLen T + j by omega, Nat.pow_add]; exact Nat.mul_lt_mul_of_pos_right a1 hp
/-! ### what is beyond -/
theorem upR_zero (m : Int) (neg o : Bool) : upR m neg o 0 = false := by simp [upR]
theorem restC_zero (P : Nat) : restC 0 P = 0 := by simp [restC]
theorem restC_iff {r P : Nat} : restC r P = 0 ↔ r = 0 := by
  unfold restC
  split
  · simp_all
  · rename_i h; simp only [h, iff_false]; split <;> (try split) <;> omega
theorem restC_scale (r P j : Nat) : restC (r * 2 ^ j) (P * 2 ^ j) = restC r P := by
  have hp : 0 < 2 ^ j := Nat.pow_pos (by omega)
  unfold restC
  have e0 : (r * 2 ^ j = 0) ↔ r = 0 := by rw [Nat.mul_eq_zero]; omega
  have e1 : (2 * (r * 2 ^ j) < P * 2 ^ j) ↔ 2 * r < P := by rw [← Nat.mul_assoc]; exact Nat.mul_lt_mul_right hp
  have e2 : (2 * (r * 2 ^ j) = P * 2 ^ j) ↔ 2 * r = P := by rw [← Nat.mul_assoc]; exact Nat.mul_left_inj (by omega)
  simp only [e0, e1, e2]
/-! ### multiples -/
theorem rq_bd (m : Int) (neg : Bool) (T k : Nat) : T / 2 ^ k ≤ rq m neg T k ∧ rq m neg T k ≤ T / 2 ^ k + 1 := by unfold rq; split <;> omega
theorem rq_exact {m : Int} {neg : Bool} {T k : Nat} (h : T % 2 ^ k = 0) : rq m neg T k = T / 2 ^ k := by
  unfold rq
  rw [h, restC_zero, upR_zero]
  simp
theorem rq_scale (m : Int) (neg : Bool) (T k j : Nat) : rq m neg (T * 2 ^ j) (k + j) = rq m neg T k := by
  have hp : 0 < 2 ^ j := Nat.pow_pos (by omega)
  unfold rq
  rw [Nat.pow_add, Nat.mul_div_mul_right _ _ hp, Nat.mul_mod_mul_right, restC_scale]
/-- scale: the same number told in two ways -/
theorem toQ_scale (m : Int) (neg : Bool) (T j : Nat) (E e : Int) : toQ m neg (T * 2 ^ j) (E - j) e = toQ m neg T E e := by
  unfold toQ
  by_cases h1 : e ≤ E
  · rw [if_pos h1]
    by_cases h2 : e ≤ E - j
    · rw [if_pos h2, Nat.mul_assoc, ← Nat.pow_add]
      congr 2; omega
    · rw [if_neg h2]
      have ej : j = (E - e).toNat + (e - (E - j)).toNat := by omega
      have e1 : T * 2 ^ j = T * 2 ^ (E - e).toNat * 2 ^ (e - (E - j)).toNat := by rw [Nat.mul_assoc, ← Nat.pow_add, ← ej]
      have hp : 0 < 2 ^ (e - (E - j)).toNat := Nat.pow_pos (by omega)
      rw [e1, rq_exact (Nat.mul_mod_left _ _), Nat.mul_div_cancel _ hp]
  · rw [if_neg h1, if_neg (by omega), show (e - (E - j)).toNat = (e - E).toNat + j by omega, rq_scale]
theorem toL_scale (T j : Nat) (E e : Int) : toL (T * 2 ^ j) (E - j) e = toL T E e := by
  have hp : 0 < 2 ^ j := Nat.pow_pos (by omega)
  unfold toL
  by_cases h1 : e ≤ E
  · rw [if_pos h1]
    by_cases h2 : e ≤ E - j
    · rw [if_pos h2]
    · rw [if_neg h2]
      have ej : j = (E - e).toNat + (e - (E - j)).toNat := by omega
      have e1 : T * 2 ^ j = T * 2 ^ (E - e).toNat * 2 ^ (e - (E - j)).toNat := by rw [Nat.mul_assoc, ← Nat.pow_add, ← ej]
      rw [e1, Nat.mul_mod_left]
      simp
  · rw [if_neg h1, if_neg (by omega), show (e - (E - j)).toNat = (e - E).toNat + j by omega, Nat.pow_add, Nat.mul_mod_mul_right]
    congr 1
    rw [ne_eq, ne_eq, Nat.mul_eq_zero]
    simp only [eq_iff_iff]
    omega
theorem lgN_scale {T : Nat} (h : T ≠ 0) (j : Nat) (E : Int) : lgN (T * 2 ^ j) (E - j) = lgN T E := by
  unfold lgN
  rw [len_mul h]
  omega
theorem lowE_scale {T : Nat} (h : T ≠ 0) (j : Nat) (E : Int) : lowE (T * 2 ^ j) (E - j) = lowE T E := by unfold lowE; rw [lgN_scale h]
theorem p0_scale {T : Nat} (h : T ≠ 0) (m : Int) (neg : Bool) (j : Nat) (E : Int) : p0 m neg (T * 2 ^ j) (E - j) = p0 m neg T E := by unfold p0; rw [lowE_scale h, toQ_scale]
theorem tiny_scale {T : Nat} (h : T ≠ 0) (m : Int) (neg : Bool) (j : Nat) (E : Int) : tiny m neg (T * 2 ^ j) (E - j) = tiny m neg T E := by unfold tiny; rw [lgN_scale h, toQ_scale]
theorem scale_ne {T : Nat} (j : Nat) : (T * 2 ^ j = 0) = (T = 0) := by
  have hp : 0 < 2 ^ j := Nat.pow_pos (by omega)
  rw [Nat.mul_eq_zero]
  simp only [eq_iff_iff]
  omega
theorem rnP_scale (m : Int) (neg : Bool) (T j : Nat) (E : Int) : rnP m neg (T * 2 ^ j) (E - j) = rnP m neg T E := by
  unfold rnP
  simp only [scale_ne]
  by_cases h : T = 0
  · rw [if_pos h, if_pos h]
  · rw [if_neg h, if_neg h, p0_scale h]
theorem rnF_scale (m : Int) (neg : Bool) (T j : Nat) (E : Int) : rnF m neg (T * 2 ^ j) (E - j) = rnF m neg T E := by
  unfold rnF
  simp only [scale_ne]
  by_cases h : T = 0
  · rw [if_pos h, if_pos h]
  · rw [if_neg h, if_neg h, p0_scale h, tiny_scale h, lowE_scale h, toL_scale]
end Go.Rn
namespace Go.Pt
def bOr (x y : Int) : Int := IntKind.u64.wrap ((BitVec.ofInt 64 x ||| BitVec.ofInt 64 y).toNat : Nat)
def bXor (x y : Int) : Int := IntKind.u64.wrap ((BitVec.ofInt 64 x ^^^ BitVec.ofInt 64 y).toNat : Nat)
def bNot (x y : Int) : Int := IntKind.u64.wrap ((BitVec.ofInt 64 x &&& ~~~(BitVec.ofInt 64 y)).toNat : Nat)
abbrev U (p : Int) : Prop := 0 ≤ p ∧ p < 18446744073709551616
abbrev I (n : Int) : Prop := -9223372036854775808 ≤ n ∧ n ≤ 9223372036854775807
theorem wrapU (n : Int) : IntKind.u64.wrap n = n % 18446744073709551616 := by simp [IntKind.wrap, IntKind.bits, IntKind.signed]
theorem wrapU' {n : Int} (h : U n) : IntKind.u64.wrap n = n := by rw [wrapU]; unfold U at h; omega
theorem wrapI' {n : Int} (h : I n) : IntKind.i64.wrap n = n := by
  unfold I at h
  simp [IntKind.wrap, IntKind.bits, IntKind.signed]; omega
theorem ofU {Z : Nat} (h : Z < 18446744073709551616) : (BitVec.ofInt 64 (Z : Int)).toNat = Z := by simp; omega
theorem back {V : BitVec 64} : IntKind.u64.wrap (V.toNat : Nat) = (V.toNat : Int) := by
  have := V.isLt
  exact wrapU' ⟨by omega, by omega⟩
theorem or_low {p q : Int} (k : Nat) {z : Int} (hz : 0 ≤ z) (hq : q = 2 ^ k * z) (hp : 0 ≤ p) (hk : p < 2 ^ k) (hs : q + p < 18446744073709551616) : bOr p q = q + p := by
  obtain ⟨Z, rfl⟩ := Int.eq_ofNat_of_zero_le hz
  obtain ⟨Y, rfl⟩ := Int.eq_ofNat_of_zero_le hp
  have ex : (2 : Int) ^ k * (Z : Nat) = ((2 ^ k * Z : Nat) : Int) := by simp
  have hY : Y < 2 ^ k := by
    have : ((Y : Nat) : Int) < ((2 ^ k : Nat) : Int) := by simpa using hk
    exact Int.ofNat_lt.1 this
  subst hq
  rw [ex] at hs ⊢
  have hX : 2 ^ k * Z + Y < 18446744073709551616 := by omega
  unfold bOr
  rw [back, BitVec.toNat_or, ofU (by omega), ofU (by omega), Nat.or_comm, ← Nat.two_pow_add_eq_or_of_lt hY]
  omega
theorem bNot_sign {p : Int} (hp : U p) : bNot p 9223372036854775808 = p % 9223372036854775808 := by
  obtain ⟨h0, h1⟩ := hp
  obtain ⟨Z, rfl⟩ := Int.eq_ofNat_of_zero_le h0
  unfold bNot
  have e : (~~~(BitVec.ofInt 64 9223372036854775808)).toNat = 2 ^ 63 - 1 := by decide
  rw [back, BitVec.toNat_and, ofU (by omega), e, Nat.and_two_pow_sub_one_eq_mod]
  omega
theorem xor_sign (r : Nat) (h : r < 2 ^ 63) : r ^^^ 2 ^ 63 = 2 ^ 63 + r := by
  have e : 2 ^ 63 + r = 2 ^ 63 ||| r := by
    have := Nat.two_pow_add_eq_or_of_lt h 1
    simpa using this
  rw [e]
  refine Nat.eq_of_testBit_eq fun i => ?_
  rw [Nat.testBit_xor, Nat.testBit_or, Nat.testBit_two_pow]
  by_cases hi : 63 = i
  · subst hi
    rw [Nat.testBit_lt_two_pow h]
    simp
  · simp [hi]
theorem bXor_sign {p : Int} (hp : U p) : bXor p 9223372036854775808 = (p + 9223372036854775808) % 18446744073709551616 := by
  obtain ⟨h0, h1⟩ := hp
  obtain ⟨Z, rfl⟩ := Int.eq_ofNat_of_zero_le h0
  unfold bXor
  have e : (BitVec.ofInt 64 9223372036854775808).toNat = 2 ^ 63 := by decide
  rw [back, BitVec.toNat_xor, ofU (by omega), e]
  by_cases hz : Z < 2 ^ 63
  · rw [xor_sign Z hz]
    omega
  · have h2 := xor_sign (Z - 2 ^ 63) (by omega)
    have e2 : Z = (Z - 2 ^ 63) ^^^ 2 ^ 63 := by rw [h2]; omega
    have e3 : Z ^^^ 2 ^ 63 = Z - 2 ^ 63 := by
      rw [e2, Nat.xor_assoc, Nat.xor_self, Nat.xor_zero, ← e2]
    rw [e3]
    omega
/-! ### a pattern's parts -/
end Go.Pt
namespace Go.Rn
open Go.Pt
/-! ### how great a multiple's number is -/
theorem toQ_le {m : Int} {neg : Bool} {T : Nat} {E e : Int} {n : Nat} (h : (bitLen T : Int) + (E - e) ≤ n) : toQ m neg T E e ≤ 2 ^ n := by
  have a1 := (bitLen_spec T).1
  unfold toQ
  by_cases he : e ≤ E
  · rw [if_pos he]
    have hp : 0 < 2 ^ (E - e).toNat := Nat.pow_pos (by omega)
    have := Nat.mul_le_mul_right (2 ^ (E - e).toNat) (Nat.le_of_lt a1)
    rw [← Nat.pow_add] at this
    have h2 := Nat.pow_le_pow_right (show 0 < 2 by omega) (show bitLen T + (E - e).toNat ≤ n by omega)
    omega
  · rw [if_neg he]
    have b := (rq_bd m neg T (e - E).toNat).2
    have h2 := Nat.pow_le_pow_right (show 0 < 2 by omega) (show bitLen T ≤ n + (e - E).toNat by omega)
    have h3 : T / 2 ^ (e - E).toNat < 2 ^ n := by
      apply Nat.div_lt_of_lt_mul
      rw [Nat.pow_add, Nat.mul_comm] at h2
      omega
    omega
theorem toQ_ge {m : Int} {neg : Bool} {T : Nat} {E e : Int} {n : Nat} (hT : T ≠ 0) (h : (n : Int) + 1 ≤ (bitLen T : Int) + (E - e)) : 2 ^ n ≤ toQ m neg T E e := by
  have a2 := (bitLen_spec T).2 hT
  have a3 := len_pos hT
  unfold toQ
  by_cases he : e ≤ E
  · rw [if_pos he]
    have := Nat.mul_le_mul_right (2 ^ (E - e).toNat) a2
    rw [← Nat.pow_add] at this
    have h2 := Nat.pow_le_pow_right (show 0 < 2 by omega) (show n ≤ bitLen T - 1 + (E - e).toNat by omega)
    omega
  · rw [if_neg he]
    have b := (rq_bd m neg T (e - E).toNat).1
    have hp : 0 < 2 ^ (e - E).toNat := Nat.pow_pos (by omega)
    have h2 := Nat.pow_le_pow_right (show 0 < 2 by omega) (show n + (e - E).toNat ≤ bitLen T - 1 by omega)
    have h3 : 2 ^ n ≤ T / 2 ^ (e - E).toNat := by
      rw [Nat.le_div_iff_mul_le hp, ← Nat.pow_add]
      omega
    omega
theorem low_hi (m : Int) (neg : Bool) (T : Nat) (E : Int) : toQ m neg T E (lowE T E) ≤ 9007199254740992 := by
  refine toQ_le (n := 53) ?_
  unfold lowE lgN
  split <;> omega
theorem low_lo {m : Int} {neg : Bool} {T : Nat} {E : Int} (hT : T ≠ 0) (h : -1074 ≤ lgN T E - 52) : 4503599627370496 ≤ toQ m neg T E (lowE T E) := by
  refine toQ_ge (n := 52) hT ?_
  unfold lowE lgN at *
  split <;> omega
/-! ### order -/
theorem lowE_ge (T : Nat) (E : Int) : -1074 ≤ lowE T E := by unfold lowE; split <;> omega
theorem p0_nonneg (m : Int) (neg : Bool) (T : Nat) (E : Int) : 0 ≤ p0 m neg T E := by
  have := lowE_ge T E
  unfold p0
  omega
theorem bey_or (m : Int) (neg : Bool) : bey m neg = 9218868437227405312 ∨ bey m neg = 9218868437227405311 := by unfold bey; split <;> simp
/-! ### between -/
/-! ### a pattern's own number -/
end Go.Rn
namespace Go.Nt
/-- how many are left without noughts at the end -/
def trimN : List Int → Nat
  | [] => 0
  | x :: r => if trimN r = 0 then (if x = 0 then 0 else 1) else trimN r + 1
theorem trimN_le : ∀ L : List Int, trimN L ≤ L.length
  | [] => Nat.le_refl _
  | x :: r => by
    have := trimN_le r
    unfold trimN
    split
    · split <;> simp
    · simp; omega
theorem trimN_high : ∀ (L : List Int) (i : Nat), trimN L ≤ i → L.getD i 0 = 0
  | [], i, _ => by simp
  | x :: r, i, h => by
    unfold trimN at h
    cases i with
    | zero =>
      split at h
      · split at h
        · rename_i h1; simp [h1]
        · omega
      · omega
    | succ i =>
      have := trimN_high r i (by split at h <;> (try split at h) <;> omega)
      simpa using this
theorem trimN_top : ∀ L : List Int, trimN L = 0 ∨ L.getD (trimN L - 1) 0 ≠ 0
  | [] => .inl rfl
  | x :: r => by
    have ih := trimN_top r
    unfold trimN
    split
    · split
      · exact .inl rfl
      · rename_i h; exact .inr (by simpa using h)
    · rename_i h
      rcases ih with ih | ih
      · exact absurd ih h
      · refine .inr ?_
        obtain ⟨k, hk⟩ : ∃ k, trimN r = k + 1 := ⟨trimN r - 1, by omega⟩
        rw [hk] at ih ⊢
        simpa using ih
theorem trimN_uniq {L : List Int} {k : Nat} (h1 : ∀ i, k ≤ i → L.getD i 0 = 0) (h2 : k = 0 ∨ L.getD (k - 1) 0 ≠ 0) : trimN L = k := by
  rcases Nat.lt_trichotomy (trimN L) k with h | h | h
  · rcases h2 with h2 | h2
    · omega
    · exact absurd (trimN_high L (k - 1) (by omega)) h2
  · exact h
  · rcases trimN_top L with h3 | h3
    · omega
    · exact absurd (h1 (trimN L - 1) (by omega)) h3
/-- from the highest down -/
def topCmp (L M : List Int) : Nat → Int
  | 0 => 0
  | k + 1 => if L.getD k 0 = M.getD k 0 then topCmp L M k else if L.getD k 0 < M.getD k 0 then -1 else 1
def cmpL (L M : List Int) : Int := if L.length = M.length then topCmp L M L.length else if L.length < M.length then -1 else 1
/-- a number's value, of digits to a base -/
def vb (b : Nat) : List Int → Nat
  | [] => 0
  | x :: l => x.toNat + b * vb b l
/-- a number's digits -/
def db (b V : Nat) : List Int := if _h : V = 0 ∨ b < 2 then [] else ((V % b : Nat) : Int) :: db b (V / b)
  termination_by V
  decreasing_by exact Nat.div_lt_self (by omega) (by omega)
/-- digits to a base -/
abbrev Dg (b : Nat) (x : Int) : Prop := 0 ≤ x ∧ x < b
theorem db_zero (b : Nat) : db b 0 = [] := by rw [db]; simp
theorem db_pos {b V : Nat} (hb : 2 ≤ b) (hV : V ≠ 0) : db b V = ((V % b : Nat) : Int) :: db b (V / b) := by
  rw [db]
  rw [dif_neg (by omega)]
theorem vb_db {b : Nat} (hb : 2 ≤ b) (V : Nat) : vb b (db b V) = V := by
  induction V using Nat.strongRecOn with
  | ind V ih =>
    by_cases hV : V = 0
    · subst hV; rw [db_zero]; rfl
    · rw [db_pos hb hV]
      simp only [vb]
      rw [ih (V / b) (Nat.div_lt_self (by omega) (by omega)), Int.toNat_natCast]
      exact Nat.mod_add_div V b
theorem db_dg {b : Nat} (hb : 2 ≤ b) (V : Nat) : ∀ x ∈ db b V, Dg b x := by
  induction V using Nat.strongRecOn with
  | ind V ih =>
    by_cases hV : V = 0
    · subst hV; rw [db_zero]; intro x hx; cases hx
    · rw [db_pos hb hV]
      intro x hx
      rcases List.mem_cons.1 hx with rfl | hx
      · have := Nat.mod_lt V (show b > 0 by omega)
        exact ⟨by omega, by omega⟩
      · exact ih (V / b) (Nat.div_lt_self (by omega) (by omega)) x hx
theorem db_nil {b V : Nat} (hb : 2 ≤ b) : db b V = [] ↔ V = 0 := by
  constructor
  · intro h
    by_cases hV : V = 0
    · exact hV
    · rw [db_pos hb hV] at h; cases h
  · rintro rfl; exact db_zero b
/-- digits without noughts at the end are the number's -/
theorem take_trim {b : Nat} (hb : 2 ≤ b) : ∀ (L : List Int), (∀ x ∈ L, Dg b x) → L.take (trimN L) = db b (vb b L)
  | [], _ => by simp [vb, db_zero]
  | x :: r, h => by
    have ih := take_trim hb r (fun y hy => h y (List.mem_cons_of_mem _ hy))
    have hx := h x (List.mem_cons_self)
    have hxn : ((x.toNat : Nat) : Int) = x := Int.toNat_of_nonneg hx.1
    have hlt : x.toNat < b := by omega
    have e1 : (x.toNat + b * vb b r) % b = x.toNat := by rw [Nat.add_mul_mod_self_left, Nat.mod_eq_of_lt hlt]
    have e2 : (x.toNat + b * vb b r) / b = vb b r := by rw [Nat.add_mul_div_left _ _ (by omega), Nat.div_eq_of_lt hlt, Nat.zero_add]
    unfold trimN
    by_cases h0 : trimN r = 0
    · rw [if_pos h0]
      rw [h0, List.take_zero] at ih
      have hv : vb b r = 0 := (db_nil hb).1 ih.symm
      by_cases hx0 : x = 0
      · rw [if_pos hx0]
        simp only [List.take_zero, vb, hv, hx0]
        simp [db_zero]
      · rw [if_neg hx0]
        have hx1 : x.toNat ≠ 0 := by omega
        show [x] = _
        simp only [vb]
        rw [db_pos hb (by rw [hv]; omega), e1, e2, hv, db_zero, hxn]
    · rw [if_neg h0]
      have hv : vb b r ≠ 0 := fun hv => by
        rw [hv, db_zero] at ih
        have hl := congrArg List.length ih
        have := trimN_le r
        simp at hl
        rcases hl with hl | hl
        · exact h0 hl
        · subst hl; exact h0 rfl
      have hpos : 0 < b * vb b r := Nat.mul_pos (by omega) (by omega)
      show x :: r.take (trimN r) = _
      simp only [vb]
      rw [db_pos hb (by omega), e1, e2, hxn, ih]
theorem trim_len {b : Nat} (hb : 2 ≤ b) {L : List Int} (h : ∀ x ∈ L, Dg b x) : trimN L = (db b (vb b L)).length := by
  rw [← take_trim hb L h]
  have := trimN_le L
  simp
  omega
/-- a number's digits are those of it -/
def Canon (b : Nat) (L : List Int) : Prop := (∀ x ∈ L, Dg b x) ∧ trimN L = L.length
theorem can_db {b : Nat} (hb : 2 ≤ b) (V : Nat) : Canon b (db b V) := by
  have h := db_dg hb V
  refine ⟨h, ?_⟩
  have := trim_len hb h
  rw [vb_db hb] at this
  exact this
theorem db_len {b : Nat} (hb : 2 ≤ b) : ∀ (k V : Nat), V < b ^ k → (db b V).length ≤ k
  | 0, V, h => by
    have : V = 0 := by simpa using h
    subst this; rw [db_zero]; exact Nat.le_refl _
  | k + 1, V, h => by
    by_cases hV : V = 0
    · subst hV; rw [db_zero]; exact Nat.zero_le _
    · rw [db_pos hb hV]
      have : V / b < b ^ k := Nat.div_lt_of_lt_mul (by rw [Nat.pow_succ] at h; rw [Nat.mul_comm]; exact h)
      have := db_len hb k (V / b) this
      simp
      omega
theorem vb_lt {b : Nat} (hb : 2 ≤ b) : ∀ (L : List Int), (∀ x ∈ L, Dg b x) → vb b L < b ^ L.length
  | [], _ => by simp [vb]
  | x :: r, h => by
    have ih := vb_lt hb r (fun y hy => h y (List.mem_cons_of_mem _ hy))
    have hx := h x (List.mem_cons_self)
    have hlt : x.toNat < b := by omega
    simp only [vb, List.length_cons, Nat.pow_succ]
    calc x.toNat + b * vb b r < b + b * vb b r := by omega
      _ = b * (vb b r + 1) := by rw [Nat.mul_add, Nat.mul_one, Nat.add_comm]
      _ ≤ b * b ^ r.length := Nat.mul_le_mul_left _ ih
      _ = b ^ r.length * b := Nat.mul_comm _ _
theorem vb_append (b : Nat) : ∀ (L M : List Int), vb b (L ++ M) = vb b L + b ^ L.length * vb b M
  | [], M => by simp [vb]
  | x :: r, M => by
    simp only [List.cons_append, vb, vb_append b r M, List.length_cons, Nat.pow_succ]
    rw [Nat.mul_add, ← Nat.mul_assoc, Nat.mul_comm b (b ^ r.length)]
    omega
theorem vb_one (b : Nat) (x : Int) : vb b [x] = x.toNat := by simp [vb]
theorem vb_take (b : Nat) (L : List Int) (i : Nat) : vb b (L.take (i + 1)) = vb b (L.take i) + b ^ i * (L.getD i 0).toNat := by
  by_cases h : i < L.length
  · have e : L.take (i + 1) = L.take i ++ [L.getD i 0] := by
      rw [List.take_add_one, List.getElem?_eq_getElem h]
      simp [List.getD, List.getElem?_eq_getElem h]
    rw [e, vb_append, vb_one, List.length_take]
    rw [show min i L.length = i from by omega]
  · rw [List.take_of_length_le (by omega), List.take_of_length_le (by omega)]
    simp [List.getD, List.getElem?_eq_none (show L.length ≤ i by omega)]
theorem dvd_pow {s : Nat} (h : s ≤ 16) : 2 ^ s * 2 ^ (16 - s) = 65536 := by rw [← Nat.pow_add, show s + (16 - s) = 16 by omega]
/-- what is cut off -/
theorem lost_iff {L : List Int} (h : ∀ x ∈ L, Dg 65536 x) (k : Nat) : (vb 65536 L % 2 ^ k ≠ 0) ↔ (vb 65536 (L.take (k / 16)) ≠ 0 ∨ dgS L (k / 16) % 2 ^ (k % 16) ≠ 0) := by
  obtain ⟨e1, e2⟩ := vb_cut h (k / 16)
  have hp : 0 < 65536 ^ (k / 16) := Nat.pow_pos (by omega)
  rw [pow_split16, Nat.mod_mul, e1, e2, vb_drop]
  have hd := dvd_pow (s := k % 16) (by omega)
  have e3 : (dgS L (k / 16) + 65536 * vb 65536 (L.drop (k / 16 + 1))) % 2 ^ (k % 16) = dgS L (k / 16) % 2 ^ (k % 16) := by
    rw [← hd, Nat.mul_assoc, Nat.add_mul_mod_self_left]
  rw [e3]
  generalize dgS L (k / 16) % 2 ^ (k % 16) = r
  generalize vb 65536 (L.take (k / 16)) = u
  constructor
  · intro h0
    by_cases hu : u = 0
    · right
      intro hr
      apply h0
      rw [hu, hr, Nat.mul_zero]
    · exact .inl hu
  · rintro (h0 | h0) hh
    · omega
    · have : 0 < 65536 ^ (k / 16) * r := Nat.mul_pos hp (by omega)
      omega
end Go.Nt
namespace Go.Wd
structure W4 where
  a : Int
  b : Int
  c : Int
  d : Int
def W4.val (x : W4) : Int := x.a + 18446744073709551616 * x.b + 340282366920938463463374607431768211456 * x.c + 6277101735386680763835789423207666416102355444464034512896 * x.d
abbrev W4.ok (x : W4) : Prop := (0 ≤ x.a ∧ x.a < 18446744073709551616) ∧ (0 ≤ x.b ∧ x.b < 18446744073709551616) ∧ (0 ≤ x.c ∧ x.c < 18446744073709551616) ∧ (0 ≤ x.d ∧ x.d < 18446744073709551616)
/-- the lowest 256 bits of a number -/
def W4.of (n : Int) : W4 :=
  ⟨n % 18446744073709551616, n / 18446744073709551616 % 18446744073709551616, n / 340282366920938463463374607431768211456 % 18446744073709551616, n / 6277101735386680763835789423207666416102355444464034512896 % 18446744073709551616⟩
def eqW (x y : W4) : Bool := x.a == y.a && (x.b == y.b && (x.c == y.c && (x.d == y.d && true)))
theorem eqW_iff {x y : W4} : eqW x y = true ↔ x = y := by
  cases x; cases y; simp [eqW]
theorem W4.ext' {x y : W4} (h1 : x.a = y.a) (h2 : x.b = y.b) (h3 : x.c = y.c) (h4 : x.d = y.d) : x = y := by
  cases x; cases y; simp_all
theorem W4.ok_of (n : Int) : (W4.of n).ok := by
  unfold W4.of W4.ok
  refine ⟨⟨?_, ?_⟩, ⟨?_, ?_⟩, ⟨?_, ?_⟩, ⟨?_, ?_⟩⟩ <;> dsimp only <;> omega
theorem W4.of_val {x : W4} (h : x.ok) : W4.of x.val = x := by
  obtain ⟨a, b, c, d⟩ := x
  unfold W4.ok at h
  unfold W4.val W4.of
  dsimp only at *
  refine W4.ext' ?_ ?_ ?_ ?_ <;> dsimp only <;> omega
theorem W4.val_of (n : Int) : (W4.of n).val = n % 115792089237316195423570985008687907853269984665640564039457584007913129639936 := by
  unfold W4.val W4.of
  dsimp only
  omega
theorem W4.val_bd {x : W4} (h : x.ok) : 0 ≤ x.val ∧ x.val < 115792089237316195423570985008687907853269984665640564039457584007913129639936 := by
  obtain ⟨a, b, c, d⟩ := x
  unfold W4.ok at h
  unfold W4.val
  dsimp only at *
  omega
theorem W4.val_inj {x y : W4} (hx : x.ok) (hy : y.ok) (h : x.val = y.val) : x = y := by
  rw [← W4.of_val hx, ← W4.of_val hy, h]
/-! ### a sum -/
def ad (x y c : Int) : Int := (x + y + c) % 18446744073709551616
def ca (x y c : Int) : Int := (x + y + c) / 18446744073709551616
def addR (x y : W4) : W4 := ⟨ad x.a y.a 0, ad x.b y.b (ca x.a y.a 0), ad x.c y.c (ca x.b y.b (ca x.a y.a 0)), ad x.d y.d (ca x.c y.c (ca x.b y.b (ca x.a y.a 0)))⟩
def addC (x y : W4) : Int := ca x.d y.d (ca x.c y.c (ca x.b y.b (ca x.a y.a 0)))
theorem addR_eq {x y : W4} (hx : x.ok) (hy : y.ok) : addR x y = W4.of (x.val + y.val) := by
  obtain ⟨a, b, c, d⟩ := x
  obtain ⟨a', b', c', d'⟩ := y
  unfold W4.ok at hx hy
  unfold W4.val W4.of addR ad ca
  dsimp only at *
  refine W4.ext' ?_ ?_ ?_ ?_ <;> dsimp only <;> omega
theorem addC_eq {x y : W4} (hx : x.ok) (hy : y.ok) : (addC x y != 0) = decide (115792089237316195423570985008687907853269984665640564039457584007913129639936 ≤ x.val + y.val) := by
  obtain ⟨a, b, c, d⟩ := x
  obtain ⟨a', b', c', d'⟩ := y
  unfold W4.ok at hx hy
  unfold W4.val addC ca
  dsimp only at *
  rw [Bool.eq_iff_iff]
  simp only [bne_iff_ne, ne_eq, decide_eq_true_eq]
  omega
/-! ### a difference -/
def sb (x y c : Int) : Int := (x + 18446744073709551616 - y - c) % 18446744073709551616
theorem wrap_u64 (n : Int) : IntKind.u64.wrap n = n % 18446744073709551616 := by simp [IntKind.wrap, IntKind.bits, IntKind.signed]
theorem wrap_i64' {n : Int} (h0 : -9223372036854775808 ≤ n) (h1 : n ≤ 9223372036854775807) : IntKind.i64.wrap n = n := by
  simp [IntKind.wrap, IntKind.bits, IntKind.signed]; omega
def prt (n : Int) : Int := IntKind.u64.wrap (n.tmod 64)
def rem (n : Int) : Int := IntKind.u64.wrap (64 - prt n)
def up (a n : Int) : Int := IntKind.u64.wrap (a * 2 ^ min (prt n).toNat 64)
def dn (a n : Int) : Int := a.fdiv (2 ^ min (rem n).toNat 64)
/-- down by the part, up by what is left of a word -/
def dn' (a n : Int) : Int := a.fdiv (2 ^ min (prt n).toNat 64)
def up' (a n : Int) : Int := IntKind.u64.wrap (a * 2 ^ min (rem n).toNat 64)
def orr (x y : Int) : Int := IntKind.u64.wrap ((BitVec.ofInt 64 x ||| BitVec.ofInt 64 y).toNat : Nat)
theorem prt_eq {n : Int} (h : 0 ≤ n) : prt n = n % 64 := by
  unfold prt
  rw [Int.tmod_eq_emod_of_nonneg h, wrap_u64]
  omega
theorem rem_eq {n : Int} (h : 0 ≤ n) : rem n = 64 - n % 64 := by
  unfold rem
  rw [prt_eq h, wrap_u64]
  omega
/-- q = 2^p, r = 2^(64-p) -/
structure Parts (n q r : Int) : Prop where
  q1 : 1 ≤ q
  r1 : 1 < r
  qr : q * r = 18446744073709551616
  eq : q = 2 ^ (n % 64).toNat
  er : r = 2 ^ (64 - n % 64).toNat
theorem parts (n : Int) : Parts n (2 ^ (n % 64).toNat) (2 ^ (64 - n % 64).toNat) := by
  have h1 : 0 ≤ n % 64 := by omega
  have h2 : n % 64 < 64 := by omega
  refine ⟨?_, ?_, ?_, rfl, rfl⟩
  · have : (0 : Int) < 2 ^ (n % 64).toNat := Int.pow_pos (by omega)
    omega
  · obtain ⟨k, hk⟩ : ∃ k, (64 - n % 64).toNat = k + 1 := ⟨(64 - n % 64).toNat - 1, by omega⟩
    rw [hk, Int.pow_succ]
    have : (0 : Int) < 2 ^ k := Int.pow_pos (by omega)
    omega
  · rw [← Int.pow_add]
    have : (n % 64).toNat + (64 - n % 64).toNat = 64 := by omega
    rw [this]
    rfl
theorem min_prt {n : Int} (h : 0 ≤ n) : min (prt n).toNat 64 = (n % 64).toNat := by rw [prt_eq h]; omega
theorem min_rem {n : Int} (h : 0 ≤ n) : min (rem n).toNat 64 = (64 - n % 64).toNat := by rw [rem_eq h]; omega
/-- a = r * hi + lo: up: lo * q; down: hi -/
structure Cut (a q r hi lo : Int) : Prop where
  sum : a = r * hi + lo
  lo0 : 0 ≤ lo
  lo1 : lo < r
  hi0 : 0 ≤ hi
  hi1 : hi < q
theorem cut {a n q r : Int} (P : Parts n q r) (h0 : 0 ≤ a) (h1 : a < 18446744073709551616) : Cut a q r (a / r) (a % r) := by
  have hr : 0 < r := by have := P.r1; omega
  refine ⟨(Int.mul_ediv_add_emod a r).symm, Int.emod_nonneg _ (by omega), Int.emod_lt_of_pos _ hr, Int.ediv_nonneg h0 (by omega), ?_⟩
  apply Int.ediv_lt_of_lt_mul hr
  rw [P.qr]
  exact h1
theorem mul_le_of (x y c : Int) (hc : 0 ≤ c) (h : x ≤ y) : c * x ≤ c * y := Int.mul_le_mul_of_nonneg_left h hc
theorem up_eq {a n q r hi lo : Int} (hn : 0 ≤ n) (P : Parts n q r) (C : Cut a q r hi lo) : up a n = q * lo ∧ 0 ≤ q * lo ∧ q * lo + q ≤ 18446744073709551616 ∧ a * q = 18446744073709551616 * hi + q * lo := by
  have e : a * q = 18446744073709551616 * hi + q * lo := by
    rw [C.sum, Int.add_mul, ← P.qr, Int.mul_comm r hi, Int.mul_assoc hi r q, Int.mul_comm r q, Int.mul_comm hi (q * r), Int.mul_comm lo q]
  have b0 : 0 ≤ q * lo := Int.mul_nonneg (by have := P.q1; omega) C.lo0
  have b1 : q * lo + q ≤ 18446744073709551616 := by
    have h := mul_le_of (lo + 1) r q (by have := P.q1; omega) (by have := C.lo1; omega)
    rw [P.qr, Int.mul_add, Int.mul_one] at h
    exact h
  refine ⟨?_, b0, b1, e⟩
  unfold up
  rw [min_prt hn, ← P.eq, wrap_u64, e]
  have := P.q1
  omega
theorem dn_eq {a n q r hi lo : Int} (hn : 0 ≤ n) (P : Parts n q r) (C : Cut a q r hi lo) : dn a n = hi := by
  unfold dn
  rw [min_rem hn, ← P.er, Int.fdiv_eq_ediv_of_nonneg _ (by have := P.r1; omega), C.sum, Int.mul_comm r hi, Int.add_comm, Int.add_mul_ediv_right _ _ (by have := P.r1; omega),
    Int.ediv_eq_zero_of_lt C.lo0 C.lo1, Int.zero_add]
/-- bits that do not meet: 'or' is '+' -/
theorem orr_eq {k : Nat} {x y : Int} (hx : ∃ z : Int, x = 2 ^ k * z) (x0 : 0 ≤ x) (y0 : 0 ≤ y) (y1 : y < 2 ^ k) (hs : x + y < 18446744073709551616) : orr x y = x + y := by
  obtain ⟨z, hz⟩ := hx
  have hp : (0 : Int) < 2 ^ k := Int.pow_pos (by omega)
  have z0 : 0 ≤ z := by
    rcases Int.lt_or_le z 0 with h | h
    · have := mul_le_of z (-1) (2 ^ k) (by omega) (by omega)
      omega
    · exact h
  obtain ⟨Z, rfl⟩ := Int.eq_ofNat_of_zero_le z0
  obtain ⟨Y, rfl⟩ := Int.eq_ofNat_of_zero_le y0
  have ex : x = ((2 ^ k * Z : Nat) : Int) := by rw [hz]; simp
  have hY : Y < 2 ^ k := by
    have : ((Y : Nat) : Int) < ((2 ^ k : Nat) : Int) := by simpa using y1
    exact Int.ofNat_lt.1 this
  have hX : 2 ^ k * Z + Y < 18446744073709551616 := by
    rw [ex] at hs
    have : (((2 ^ k * Z + Y : Nat)) : Int) < 18446744073709551616 := by simpa using hs
    omega
  unfold orr
  rw [ex]
  have e1 : ∀ m : Nat, m < 18446744073709551616 → (BitVec.ofInt 64 (m : Int)).toNat = m := fun m hm => by
    simp
    omega
  rw [BitVec.toNat_or, e1 _ (by omega), e1 _ (by omega), ← Nat.two_pow_add_eq_or_of_lt hY, wrap_u64]
  have : (((2 ^ k * Z + Y : Nat)) : Int) = ((2 ^ k * Z : Nat) : Int) + (Y : Int) := by simp
  rw [this]
  omega
theorem W4.of_eq {x : W4} {N k : Int} (hx : x.ok) (h : N = x.val + 115792089237316195423570985008687907853269984665640564039457584007913129639936 * k) : W4.of N = x := by
  obtain ⟨a, b, c, d⟩ := x
  unfold W4.ok at hx
  unfold W4.val at h
  unfold W4.of
  dsimp only at *
  subst h
  refine W4.ext' ?_ ?_ ?_ ?_ <;> dsimp only <;> omega
/-! ### moved up -/
def shl0 (x : W4) (n : Int) : W4 := ⟨up x.a n, orr (up x.b n) (dn x.a n), orr (up x.c n) (dn x.b n), orr (up x.d n) (dn x.c n)⟩
def shl1 (x : W4) (n : Int) : W4 := ⟨0, up x.a n, orr (up x.b n) (dn x.a n), orr (up x.c n) (dn x.b n)⟩
def shl2 (x : W4) (n : Int) : W4 := ⟨0, 0, up x.a n, orr (up x.b n) (dn x.a n)⟩
def shl3 (x : W4) (n : Int) : W4 := ⟨0, 0, 0, up x.a n⟩
/-- what one word's two pieces are -/
theorem pieces {n : Int} (hn : 0 ≤ n) {a b : Int} (ha : 0 ≤ a ∧ a < 18446744073709551616) (hb : 0 ≤ b ∧ b < 18446744073709551616) :
    orr (up b n) (dn a n) = up b n + dn a n ∧ (0 ≤ up a n ∧ up a n < 18446744073709551616) ∧ (0 ≤ up b n + dn a n ∧ up b n + dn a n < 18446744073709551616) ∧
      a * 2 ^ (n % 64).toNat = 18446744073709551616 * dn a n + up a n := by
  have P := parts n
  have Ca := cut P ha.1 ha.2
  have Cb := cut P hb.1 hb.2
  obtain ⟨e1, b1, b2, b3⟩ := up_eq hn P Ca
  obtain ⟨f1, c1, c2, c3⟩ := up_eq hn P Cb
  have e2 := dn_eq hn P Ca
  have q1 := P.q1
  have h0 := Ca.hi0
  have h1 := Ca.hi1
  refine ⟨?_, ⟨by omega, by omega⟩, ⟨by omega, by omega⟩, by rw [e1, e2]; exact b3⟩
  rw [f1, e2]
  exact orr_eq (k := (n % 64).toNat) ⟨_, rfl⟩ c1 h0 h1 (by omega)
theorem z64 : (0 : Int) ≤ 0 ∧ (0 : Int) < 18446744073709551616 := ⟨by omega, by omega⟩
theorem pow_split (n : Int) (h0 : 0 ≤ n) (j : Nat) (hj : n / 64 = j) : (2 : Int) ^ n.toNat = 2 ^ (64 * j) * 2 ^ (n % 64).toNat := by
  rw [← Int.pow_add]
  congr 1
  omega
theorem val_mul (x : W4) (q : Int) : x.val * q = x.a * q + 18446744073709551616 * (x.b * q) + 340282366920938463463374607431768211456 * (x.c * q) + 6277101735386680763835789423207666416102355444464034512896 * (x.d * q) := by
  unfold W4.val
  rw [Int.add_mul, Int.add_mul, Int.add_mul, Int.mul_assoc, Int.mul_assoc, Int.mul_assoc]
theorem shl0_eq {x : W4} (hx : x.ok) {n : Int} (hn : 0 ≤ n) (hj : n / 64 = 0) : shl0 x n = W4.of (x.val * 2 ^ n.toNat) := by
  obtain ⟨h1, h2, h3, h4⟩ := hx
  obtain ⟨o1, u1, s1, m1⟩ := pieces hn h1 h2
  obtain ⟨o2, u2, s2, m2⟩ := pieces hn h2 h3
  obtain ⟨o3, u3, s3, m3⟩ := pieces hn h3 h4
  obtain ⟨_, u4, _, m4⟩ := pieces hn h4 h1
  have e := pow_split n hn 0 hj
  have one : (2 : Int) ^ (64 * 0) = 1 := rfl
  rw [one, Int.one_mul] at e
  refine (W4.of_eq (x := shl0 x n) (k := dn x.d n) ?_ ?_).symm
  · unfold shl0; rw [o1, o2, o3]; exact ⟨u1, s1, s2, s3⟩
  · rw [e, val_mul, m1, m2, m3, m4]; unfold shl0 W4.val; dsimp only; rw [o1, o2, o3]; omega
theorem shl1_eq {x : W4} (hx : x.ok) {n : Int} (hn : 0 ≤ n) (hj : n / 64 = 1) : shl1 x n = W4.of (x.val * 2 ^ n.toNat) := by
  obtain ⟨h1, h2, h3, h4⟩ := hx
  obtain ⟨o1, u1, s1, m1⟩ := pieces hn h1 h2
  obtain ⟨o2, u2, s2, m2⟩ := pieces hn h2 h3
  obtain ⟨_, u3, _, m3⟩ := pieces hn h3 h4
  obtain ⟨_, u4, _, m4⟩ := pieces hn h4 h1
  have e := pow_split n hn 1 hj
  have one : (2 : Int) ^ (64 * 1) = 18446744073709551616 := rfl
  rw [one] at e
  refine (W4.of_eq (x := shl1 x n) (k := dn x.c n + (18446744073709551616 * dn x.d n + up x.d n)) ?_ ?_).symm
  · unfold shl1; rw [o1, o2]; exact ⟨z64, u1, s1, s2⟩
  · rw [e, Int.mul_left_comm, val_mul, m1, m2, m3, m4]; unfold shl1 W4.val; dsimp only; rw [o1, o2]; omega
theorem shl2_eq {x : W4} (hx : x.ok) {n : Int} (hn : 0 ≤ n) (hj : n / 64 = 2) : shl2 x n = W4.of (x.val * 2 ^ n.toNat) := by
  obtain ⟨h1, h2, h3, h4⟩ := hx
  obtain ⟨o1, u1, s1, m1⟩ := pieces hn h1 h2
  obtain ⟨_, u2, _, m2⟩ := pieces hn h2 h3
  have e := pow_split n hn 2 hj
  have one : (2 : Int) ^ (64 * 2) = 340282366920938463463374607431768211456 := rfl
  rw [one] at e
  refine (W4.of_eq (x := shl2 x n) (k := dn x.b n + x.c * 2 ^ (n % 64).toNat + 18446744073709551616 * (x.d * 2 ^ (n % 64).toNat)) ?_ ?_).symm
  · unfold shl2; rw [o1]; exact ⟨z64, z64, u1, s1⟩
  · rw [e, Int.mul_left_comm, val_mul, m1, m2]; unfold shl2 W4.val; dsimp only; rw [o1]; omega
theorem shl3_eq {x : W4} (hx : x.ok) {n : Int} (hn : 0 ≤ n) (hj : n / 64 = 3) : shl3 x n = W4.of (x.val * 2 ^ n.toNat) := by
  obtain ⟨h1, h2, h3, h4⟩ := hx
  obtain ⟨_, u1, _, m1⟩ := pieces hn h1 h2
  have e := pow_split n hn 3 hj
  have one : (2 : Int) ^ (64 * 3) = 6277101735386680763835789423207666416102355444464034512896 := rfl
  rw [one] at e
  refine (W4.of_eq (x := shl3 x n) (k := dn x.a n + x.b * 2 ^ (n % 64).toNat + 18446744073709551616 * (x.c * 2 ^ (n % 64).toNat) + 340282366920938463463374607431768211456 * (x.d * 2 ^ (n % 64).toNat)) ?_ ?_).symm
  · unfold shl3; exact ⟨z64, z64, z64, u1⟩
  · rw [e, Int.mul_left_comm, val_mul, m1]; unfold shl3 W4.val; dsimp only; omega
/-! ### moved down -/
theorem orr_comm (x y : Int) : orr x y = orr y x := by unfold orr; rw [BitVec.or_comm]
structure Cut' (a q r hi lo : Int) : Prop where
  sum : a = q * hi + lo
  lo0 : 0 ≤ lo
  lo1 : lo < q
  hi0 : 0 ≤ hi
  hi1 : hi < r
theorem cut' {a n q r : Int} (P : Parts n q r) (h0 : 0 ≤ a) (h1 : a < 18446744073709551616) : Cut' a q r (a / q) (a % q) := by
  have hq : 0 < q := by have := P.q1; omega
  refine ⟨(Int.mul_ediv_add_emod a q).symm, Int.emod_nonneg _ (by omega), Int.emod_lt_of_pos _ hq, Int.ediv_nonneg h0 (by omega), ?_⟩
  apply Int.ediv_lt_of_lt_mul hq
  rw [Int.mul_comm, P.qr]
  exact h1
theorem dn'_eq {a n q r : Int} (hn : 0 ≤ n) (P : Parts n q r) : dn' a n = a / q := by
  unfold dn'
  rw [min_prt hn, ← P.eq, Int.fdiv_eq_ediv_of_nonneg _ (by have := P.q1; omega)]
theorem up'_eq {a n q r hi lo : Int} (hn : 0 ≤ n) (P : Parts n q r) (C : Cut' a q r hi lo) : up' a n = r * lo ∧ 0 ≤ r * lo ∧ r * lo + r ≤ 18446744073709551616 := by
  have e : a * r = 18446744073709551616 * hi + r * lo := by
    rw [C.sum, Int.add_mul, ← P.qr, Int.mul_right_comm q hi r, Int.mul_comm lo r]
  have b0 : 0 ≤ r * lo := Int.mul_nonneg (by have := P.r1; omega) C.lo0
  have b1 : r * lo + r ≤ 18446744073709551616 := by
    have h := mul_le_of (lo + 1) q r (by have := P.r1; omega) (by have := C.lo1; omega)
    rw [Int.mul_comm r q, P.qr, Int.mul_add, Int.mul_one] at h
    exact h
  refine ⟨?_, b0, b1⟩
  unfold up'
  rw [min_rem hn, ← P.er, wrap_u64, e]
  have := P.r1
  omega
/-- what one word's two pieces are: the word is q * down + rest; the next one's rest comes in from above -/
theorem pieces' {n : Int} (hn : 0 ≤ n) {a b : Int} (ha : 0 ≤ a ∧ a < 18446744073709551616) (hb : 0 ≤ b ∧ b < 18446744073709551616) :
    ∃ lb : Int, orr (dn' a n) (up' b n) = dn' a n + up' b n ∧ (0 ≤ dn' a n ∧ dn' a n < 18446744073709551616) ∧ (0 ≤ dn' a n + up' b n ∧ dn' a n + up' b n < 18446744073709551616) ∧
      2 ^ (n % 64).toNat * up' b n = 18446744073709551616 * lb ∧ 0 ≤ lb ∧ lb < 2 ^ (n % 64).toNat ∧ b = 2 ^ (n % 64).toNat * dn' b n + lb := by
  have P := parts n
  have Ca := cut' P ha.1 ha.2
  have Cb := cut' P hb.1 hb.2
  obtain ⟨f1, c1, c2⟩ := up'_eq hn P Cb
  have e1 := dn'_eq (a := a) hn P
  have e2 := dn'_eq (a := b) hn P
  have h0 := Ca.hi0
  have h1 := Ca.hi1
  have r1 := P.r1
  refine ⟨b % 2 ^ (n % 64).toNat, ?_, ⟨by omega, by omega⟩, ⟨by omega, by omega⟩, ?_, Cb.lo0, Cb.lo1, by rw [e2]; exact Cb.sum⟩
  · rw [orr_comm, f1, e1, Int.add_comm]
    exact orr_eq (k := (64 - n % 64).toNat) ⟨_, rfl⟩ c1 h0 h1 (by omega)
  · rw [f1, ← Int.mul_assoc, P.qr]
theorem up'_even {n : Int} (hn : 0 ≤ n) {b : Int} (hb : 0 ≤ b ∧ b < 18446744073709551616) : up' b n % 2 = 0 := by
  have P := parts n
  obtain ⟨f1, _, _⟩ := up'_eq hn P (cut' P hb.1 hb.2)
  obtain ⟨k, hk⟩ : ∃ k, (64 - n % 64).toNat = k + 1 := ⟨(64 - n % 64).toNat - 1, by omega⟩
  rw [f1, hk, Int.pow_succ, Int.mul_comm _ 2, Int.mul_assoc]
  omega
def shr0 (x : W4) (n : Int) : W4 := ⟨orr (dn' x.a n) (up' x.b n), orr (dn' x.b n) (up' x.c n), orr (dn' x.c n) (up' x.d n), dn' x.d n⟩
def shr1 (x : W4) (n : Int) : W4 := ⟨orr (dn' x.b n) (up' x.c n), orr (dn' x.c n) (up' x.d n), dn' x.d n, 0⟩
def shr2 (x : W4) (n : Int) : W4 := ⟨orr (dn' x.c n) (up' x.d n), dn' x.d n, 0, 0⟩
def shr3 (x : W4) (n : Int) : W4 := ⟨dn' x.d n, 0, 0, 0⟩
theorem ediv_of {N q m l : Int} (h : N = q * m + l) (h0 : 0 ≤ l) (h1 : l < q) : N / q = m := by
  rw [h, Int.add_comm, Int.add_mul_ediv_left _ _ (by omega), Int.ediv_eq_zero_of_lt h0 h1, Int.zero_add]
theorem shr_val {x m : W4} {n : Int} {q l : Int} (hm : m.ok) (h : x.val = q * m.val + l) (h0 : 0 ≤ l) (h1 : l < q) (hq : q = 2 ^ n.toNat) : m = W4.of (x.val / 2 ^ n.toNat) := by
  rw [← hq, ediv_of h h0 h1, W4.of_val hm]
theorem shr0_eq {x : W4} (hx : x.ok) {n : Int} (hn : 0 ≤ n) (hj : n / 64 = 0) : shr0 x n = W4.of (x.val / 2 ^ n.toNat) ∧ (shr0 x n).ok := by
  obtain ⟨h1, h2, h3, h4⟩ := hx
  obtain ⟨l1, o1, d1, s1, m1, l10, l11, e1⟩ := pieces' hn h1 h2
  obtain ⟨l2, o2, d2, s2, m2, l20, l21, e2⟩ := pieces' hn h2 h3
  obtain ⟨l3, o3, d3, s3, m3, l30, l31, e3⟩ := pieces' hn h3 h4
  obtain ⟨l4, _, d4, _, _, l40, l41, e4⟩ := pieces' hn h4 h1
  have e := pow_split n hn 0 hj
  have one : (2 : Int) ^ (64 * 0) = 1 := rfl
  rw [one, Int.one_mul] at e
  have hok : (shr0 x n).ok := by unfold shr0; rw [o1, o2, o3]; exact ⟨s1, s2, s3, d4⟩
  refine ⟨shr_val (q := 2 ^ (n % 64).toNat) (l := l4) hok ?_ l40 l41 e.symm, hok⟩
  rw [Int.mul_comm, val_mul]
  unfold shr0 W4.val
  dsimp only
  rw [o1, o2, o3]
  generalize (2 : Int) ^ (n % 64).toNat = q at *
  simp only [Int.mul_comm _ q, Int.mul_add]
  omega
theorem shr1_eq {x : W4} (hx : x.ok) {n : Int} (hn : 0 ≤ n) (hj : n / 64 = 1) : shr1 x n = W4.of (x.val / 2 ^ n.toNat) ∧ (shr1 x n).ok := by
  obtain ⟨h1, h2, h3, h4⟩ := hx
  obtain ⟨l2, o2, d2, s2, m2, l20, l21, e2⟩ := pieces' hn h2 h3
  obtain ⟨l3, o3, d3, s3, m3, l30, l31, e3⟩ := pieces' hn h3 h4
  obtain ⟨l4, _, d4, _, _, _, _, _⟩ := pieces' hn h4 h1
  obtain ⟨l5, _, _, _, _, l50, l51, e5⟩ := pieces' hn h1 h2
  have e := pow_split n hn 1 hj
  have one : (2 : Int) ^ (64 * 1) = 18446744073709551616 := rfl
  rw [one] at e
  have hok : (shr1 x n).ok := by unfold shr1; rw [o2, o3]; exact ⟨s2, s3, d4, z64⟩
  refine ⟨shr_val (q := 18446744073709551616 * 2 ^ (n % 64).toNat) (l := x.a + 18446744073709551616 * l5) hok ?_ (by omega) (by omega) e.symm, hok⟩
  rw [Int.mul_assoc, Int.mul_comm (2 ^ (n % 64).toNat), val_mul]
  unfold shr1 W4.val
  dsimp only
  rw [o2, o3]
  generalize (2 : Int) ^ (n % 64).toNat = q at *
  simp only [Int.mul_comm _ q, Int.mul_add]
  omega
theorem shr2_eq {x : W4} (hx : x.ok) {n : Int} (hn : 0 ≤ n) (hj : n / 64 = 2) : shr2 x n = W4.of (x.val / 2 ^ n.toNat) ∧ (shr2 x n).ok := by
  obtain ⟨h1, h2, h3, h4⟩ := hx
  obtain ⟨l3, o3, d3, s3, m3, l30, l31, e3⟩ := pieces' hn h3 h4
  obtain ⟨l4, _, d4, _, _, _, _, _⟩ := pieces' hn h4 h1
  obtain ⟨l5, _, _, _, _, l50, l51, e5⟩ := pieces' hn h1 h3
  have e := pow_split n hn 2 hj
  have one : (2 : Int) ^ (64 * 2) = 340282366920938463463374607431768211456 := rfl
  rw [one] at e
  have hok : (shr2 x n).ok := by unfold shr2; rw [o3]; exact ⟨s3, d4, z64, z64⟩
  refine ⟨shr_val (q := 340282366920938463463374607431768211456 * 2 ^ (n % 64).toNat) (l := x.a + 18446744073709551616 * x.b + 340282366920938463463374607431768211456 * l5) hok ?_ (by omega) (by omega) e.symm, hok⟩
  rw [Int.mul_assoc, Int.mul_comm (2 ^ (n % 64).toNat), val_mul]
  unfold shr2 W4.val
  dsimp only
  rw [o3]
  generalize (2 : Int) ^ (n % 64).toNat = q at *
  simp only [Int.mul_comm _ q, Int.mul_add]
  omega
theorem shr3_eq {x : W4} (hx : x.ok) {n : Int} (hn : 0 ≤ n) (hj : n / 64 = 3) : shr3 x n = W4.of (x.val / 2 ^ n.toNat) ∧ (shr3 x n).ok := by
  obtain ⟨h1, h2, h3, h4⟩ := hx
  obtain ⟨l4, _, d4, _, _, _, _, _⟩ := pieces' hn h4 h1
  obtain ⟨l5, _, _, _, _, l50, l51, e5⟩ := pieces' hn h1 h4
  have e := pow_split n hn 3 hj
  have one : (2 : Int) ^ (64 * 3) = 6277101735386680763835789423207666416102355444464034512896 := rfl
  rw [one] at e
  have hok : (shr3 x n).ok := by unfold shr3; exact ⟨d4, z64, z64, z64⟩
  refine ⟨shr_val (q := 6277101735386680763835789423207666416102355444464034512896 * 2 ^ (n % 64).toNat) (l := x.a + 18446744073709551616 * x.b + 340282366920938463463374607431768211456 * x.c + 6277101735386680763835789423207666416102355444464034512896 * l5) hok ?_ (by omega) (by omega) e.symm, hok⟩
  rw [Int.mul_assoc, Int.mul_comm (2 ^ (n % 64).toNat), val_mul]
  unfold shr3 W4.val
  dsimp only
  generalize (2 : Int) ^ (n % 64).toNat = q at *
  simp only [Int.mul_comm _ q]
  omega
end Go.Wd
namespace Go.Wd
open Go.Rn
/-- a number of four words, as a whole number -/
def W4.nat (x : W4) : Nat := x.val.toNat
theorem W4.nat_val {x : W4} (h : x.ok) : x.val = (x.nat : Int) := by
  have := (W4.val_bd h).1
  unfold W4.nat
  omega
theorem W4.nat_lt {x : W4} (h : x.ok) : x.nat < 2 ^ 256 := by
  have := W4.val_bd h
  have e : (2 : Nat) ^ 256 = 115792089237316195423570985008687907853269984665640564039457584007913129639936 := rfl
  unfold W4.nat
  omega
def ofN (n : Nat) : W4 := W4.of (n : Int)
theorem ofN_ok (n : Nat) : (ofN n).ok := W4.ok_of _
theorem ofN_nat {n : Nat} (h : n < 2 ^ 256) : (ofN n).nat = n := by
  have e : (2 : Nat) ^ 256 = 115792089237316195423570985008687907853269984665640564039457584007913129639936 := rfl
  unfold W4.nat ofN
  rw [W4.val_of]
  omega
theorem ofN_self {x : W4} (h : x.ok) : ofN x.nat = x := by
  unfold ofN
  rw [← W4.nat_val h, W4.of_val h]
theorem of_mod (n : Int) : W4.of (n % 115792089237316195423570985008687907853269984665640564039457584007913129639936) = W4.of n := by
  unfold W4.of
  refine W4.ext' ?_ ?_ ?_ ?_ <;> dsimp only <;> omega
theorem ofN_mod (n : Nat) : ofN (n % 2 ^ 256) = ofN n := by
  have e : (2 : Nat) ^ 256 = 115792089237316195423570985008687907853269984665640564039457584007913129639936 := rfl
  unfold ofN
  rw [← of_mod (n : Int), e]
  congr 1
theorem ofN_zero : ofN 0 = ⟨0, 0, 0, 0⟩ := by rfl
theorem ofN_big {n k : Nat} (h : 256 ≤ k) : ofN (n * 2 ^ k) = ⟨0, 0, 0, 0⟩ := by
  rw [← ofN_mod]
  have : n * 2 ^ k % 2 ^ 256 = 0 := by
    obtain ⟨j, rfl⟩ : ∃ j, k = j + 256 := ⟨k - 256, by omega⟩
    rw [Nat.pow_add, ← Nat.mul_assoc, Nat.mul_mod_left]
  rw [this, ofN_zero]
theorem ofN_mul_mod (n k : Nat) : ofN (n % 2 ^ 256 * k) = ofN (n * k) := by
  rw [← ofN_mod (n % 2 ^ 256 * k), ← ofN_mod (n * k), Nat.mod_mul_mod]
theorem small_div {n k : Nat} (h : n < 2 ^ 256) (hk : 256 ≤ k) : n / 2 ^ k = 0 := by
  have := Nat.pow_le_pow_right (show 0 < 2 by omega) hk
  exact Nat.div_eq_of_lt (by omega)
theorem small_mod {n k : Nat} (h : n < 2 ^ 256) (hk : 256 ≤ k) : n % 2 ^ k = n := by
  have := Nat.pow_le_pow_right (show 0 < 2 by omega) hk
  exact Nat.mod_eq_of_lt (by omega)
theorem cast_pow (k : Nat) : ((2 : Int) ^ k) = ((2 ^ k : Nat) : Int) := by simp
/-- the size: a half more, if so -/
def tw (x : W4) (b : Bool) : Nat := 2 * x.nat + (match b with | true => 1 | false => 0)
theorem tw_div (x : W4) (b : Bool) (d : Nat) : tw x b / 2 ^ (d + 1) = x.nat / 2 ^ d := by
  unfold tw
  rw [Nat.pow_succ, Nat.mul_comm (2 ^ d) 2, ← Nat.div_div_eq_div_mul]
  congr 1
  cases b <;> simp only <;> omega
theorem tw_mod (x : W4) (b : Bool) (d : Nat) : tw x b % 2 ^ (d + 1) = 2 * (x.nat % 2 ^ d) + (match b with | true => 1 | false => 0) := by
  unfold tw
  rw [Nat.pow_succ, Nat.mul_comm (2 ^ d) 2, Nat.mod_mul]
  have e : (2 * x.nat + (match b with | true => 1 | false => 0)) / 2 = x.nat := by cases b <;> simp only <;> omega
  rw [e]
  cases b <;> simp only <;> omega
theorem tw_zero {x : W4} {b : Bool} (h : x.ok) : tw x b = 0 ↔ (eqW x ⟨0, 0, 0, 0⟩ && !b) = true := by
  have e : x.nat = 0 ↔ x = ⟨0, 0, 0, 0⟩ := by
    constructor
    · intro h0
      rw [← ofN_self h, h0, ofN_zero]
    · intro h0; rw [h0]; rfl
  rw [Bool.and_eq_true, eqW_iff, ← e]
  unfold tw
  cases b <;> simp <;> omega
/-- what is beyond, by bits: d: one bit fewer than the multiple has -/
theorem rc_none {x : W4} {d : Nat} (h : x.nat % 2 ^ d = 0) : restC (tw x false % 2 ^ (d + 1)) (2 ^ (d + 1)) = 0 := by
  rw [tw_mod, h]
  simp [restC]
theorem rc_zero {x : W4} : restC (tw x true % 2 ^ (0 + 1)) (2 ^ (0 + 1)) = 2 := by
  rw [tw_mod]
  simp [restC, Nat.mod_one]
theorem mod_bit (V j : Nat) : V % 2 ^ (j + 1) = V % 2 ^ j + 2 ^ j * (V / 2 ^ j % 2) := by rw [Nat.pow_succ, Nat.mod_mul]
theorem rc_below {x : W4} {b : Bool} {j : Nat} (h : x.nat / 2 ^ j % 2 = 0) (h0 : x.nat % 2 ^ (j + 1) ≠ 0 ∨ b = true) : restC (tw x b % 2 ^ (j + 1 + 1)) (2 ^ (j + 1 + 1)) = 1 := by
  have hp : 0 < 2 ^ j := Nat.pow_pos (by omega)
  have hm := mod_bit x.nat j
  rw [h, Nat.mul_zero, Nat.add_zero] at hm
  have hl := Nat.mod_lt x.nat hp
  rw [hm] at h0
  rw [tw_mod, hm, Nat.pow_succ, Nat.pow_succ]
  unfold restC
  cases b
  · simp only [Bool.false_eq_true, or_false] at *
    rw [if_neg (by omega), if_pos (by omega)]
  · simp only
    rw [if_neg (by omega), if_pos (by omega)]
theorem rc_above {x : W4} {b : Bool} {j : Nat} (h : x.nat / 2 ^ j % 2 = 1) (h0 : x.nat % 2 ^ j ≠ 0 ∨ b = true) : restC (tw x b % 2 ^ (j + 1 + 1)) (2 ^ (j + 1 + 1)) = 3 := by
  have hp : 0 < 2 ^ j := Nat.pow_pos (by omega)
  have hm := mod_bit x.nat j
  rw [h, Nat.mul_one] at hm
  rw [tw_mod, hm, Nat.pow_succ, Nat.pow_succ]
  unfold restC
  cases b
  · simp only [Bool.false_eq_true, or_false] at *
    rw [if_neg (by omega), if_neg (by omega), if_neg (by omega)]
  · simp only
    rw [if_neg (by omega), if_neg (by omega), if_neg (by omega)]
theorem rc_half {x : W4} {j : Nat} (h : x.nat / 2 ^ j % 2 = 1) (h0 : x.nat % 2 ^ j = 0) : restC (tw x false % 2 ^ (j + 1 + 1)) (2 ^ (j + 1 + 1)) = 2 := by
  have hp : 0 < 2 ^ j := Nat.pow_pos (by omega)
  have hm := mod_bit x.nat j
  rw [h, h0, Nat.mul_one] at hm
  rw [tw_mod, hm, Nat.pow_succ, Nat.pow_succ]
  unfold restC
  simp only
  rw [if_neg (by omega), if_neg (by omega), if_pos (by omega)]
/-- all below the first bit is nothing: then the number is told by what is above it -/
theorem back_iff {x : W4} (hx : x.ok) {j : Nat} (h : x.nat / 2 ^ j % 2 = 1) : eqW x (ofN ((2 * (x.nat / 2 ^ (j + 1)) + 1) * 2 ^ j)) = decide (x.nat % 2 ^ j = 0) := by
  have hl := W4.nat_lt hx
  have hm := mod_bit x.nat j
  rw [h, Nat.mul_one] at hm
  have hd := Nat.div_add_mod x.nat (2 ^ (j + 1))
  have e : (2 * (x.nat / 2 ^ (j + 1)) + 1) * 2 ^ j = x.nat - x.nat % 2 ^ j := by
    rw [Nat.pow_succ] at hd hm ⊢
    rw [Nat.add_mul, Nat.one_mul, Nat.mul_comm 2, Nat.mul_assoc, Nat.mul_comm 2, Nat.mul_comm]
    omega
  rw [e, Bool.eq_iff_iff, eqW_iff, decide_eq_true_eq]
  have hle : x.nat % 2 ^ j ≤ x.nat := Nat.mod_le _ _
  constructor
  · intro hh
    have := congrArg W4.nat hh
    rw [ofN_nat (by omega)] at this
    omega
  · intro hh
    rw [hh, Nat.sub_zero, ofN_self hx]
end Go.Wd
namespace Go.Rn
open Go.Nt Go.Wd
theorem far_pow {k : Nat} (hk : 300 ≤ k) : 4 * 2 ^ 256 ≤ 2 ^ k := by
  obtain ⟨j, rfl⟩ : ∃ j, k = 256 + (2 + j) := ⟨k - 258, by omega⟩
  have hj : 0 < 2 ^ j := Nat.pow_pos (by omega)
  rw [Nat.pow_add, Nat.pow_add, Nat.mul_comm 4]
  refine Nat.mul_le_mul_left _ ?_
  show 4 ≤ 4 * 2 ^ j
  omega
/-- the document's size -/
def rT (x : W4) (b : Bool) : Nat := match b with | true => 2 * x.nat + 1 | false => x.nat
def jB (b : Bool) : Int := match b with | true => 1 | false => 0
theorem rT_lt {x : W4} (hx : x.ok) (b : Bool) : rT x b < 2 * 2 ^ 256 := by
  have := W4.nat_lt hx
  unfold rT
  cases b <;> simp only <;> omega
/-- beyond all patterns -/
theorem p0_big {m : Int} {neg : Bool} {T : Nat} {E : Int} (hT : T ≠ 0) (h : 1024 ≤ lgN T E) : 9218868437227405312 ≤ p0 m neg T E := by
  have hq := low_lo (m := m) (neg := neg) (T := T) (E := E) hT (by omega)
  have hl : lowE T E = lgN T E - 52 := by unfold lowE; rw [if_neg (by omega)]
  unfold p0
  rw [hl] at hq ⊢
  omega
theorem big_eq {m : Int} {neg : Bool} {T : Nat} {E : Int} (hT : T ≠ 0) (h : 1024 ≤ lgN T E) : rnP m neg T E = bey m neg ∧ rnF m neg T E = 20 := by
  have := p0_big (m := m) (neg := neg) hT h
  unfold rnP rnF
  rw [if_neg hT, if_neg hT, if_pos this, if_pos this]
  exact ⟨rfl, rfl⟩
/-- far below all patterns -/
theorem low_eq {m : Int} {neg : Bool} {T : Nat} {E : Int} (hT : T ≠ 0) (h : lgN T E ≤ -1100) : rnP m neg T E = (if upR m neg false 1 = true then 1 else 0) ∧ rnF m neg T E = 24 := by
  have hb := (bitLen_spec T).1
  have hl : lowE T E = -1074 := by unfold lowE; rw [if_pos (by omega)]
  have hE : ¬ (-1074 : Int) ≤ E := by unfold lgN at h; have := len_pos hT; omega
  have hk : bitLen T + 2 ≤ (-1074 - E).toNat := by unfold lgN at h; omega
  have hp := Nat.pow_le_pow_right (show 0 < 2 by omega) hk
  have e4 : 2 ^ (bitLen T + 2) = 4 * 2 ^ bitLen T := by rw [Nat.pow_add, Nat.mul_comm]
  have hlt : 2 * T < 2 ^ (-1074 - E).toNat := by omega
  have hd : T / 2 ^ (-1074 - E).toNat = 0 := Nat.div_eq_of_lt (by omega)
  have hm : T % 2 ^ (-1074 - E).toNat = T := Nat.mod_eq_of_lt (by omega)
  have hr : restC T (2 ^ (-1074 - E).toNat) = 1 := by unfold restC; rw [if_neg hT, if_pos hlt]
  have hq : toQ m neg T E (-1074) = if upR m neg false 1 = true then 1 else 0 := by
    unfold toQ rq
    rw [if_neg hE, hd, hm, hr]
    have ho : odd 0 = false := rfl
    rw [ho]
    simp
  have hL : toL T E (-1074) = true := by unfold toL; rw [if_neg hE, hm]; exact decide_eq_true hT
  have hti : tiny m neg T E = true := by unfold tiny; rw [if_neg (by omega)]; exact decide_eq_true (by omega)
  have hp0 : p0 m neg T E = if upR m neg false 1 = true then 1 else 0 := by
    unfold p0
    rw [hl, hq]
    split <;> rfl
  unfold rnP rnF
  rw [if_neg hT, if_neg hT, hp0, hl, hL, hti]
  split <;> simp
/-- the program's way and the document's, from any exponent -/
theorem same_round {m : Int} {neg : Bool} {x : W4} (hx : x.ok) (b : Bool) {C D : Int} (h : (C = D) ∨ (1700 ≤ C ∧ 1700 ≤ D) ∨ (C ≤ -1700 ∧ D ≤ -1700)) : rnP m neg (tw x b) (C - 1) = rnP m neg (rT x b) (D - jB b) ∧ rnF m neg (tw x b) (C - 1) = rnF m neg (rT x b) (D - jB b) := by
  have hj : 0 ≤ jB b ∧ jB b ≤ 1 := by cases b <;> simp [jB]
  have e : rnP m neg (tw x b) (C - 1) = rnP m neg (rT x b) (C - jB b) ∧ rnF m neg (tw x b) (C - 1) = rnF m neg (rT x b) (C - jB b) := by
    cases b with
    | true => exact ⟨rfl, rfl⟩
    | false =>
      have e1 : tw x false = x.nat * 2 ^ 1 := by unfold tw; simp [Nat.mul_comm]
      rw [e1]
      simp only [rT, jB, Int.sub_zero]
      exact ⟨rnP_scale m neg x.nat 1 C, rnF_scale m neg x.nat 1 C⟩
  rw [e.1, e.2]
  rcases h with h | h | h
  · rw [h]; exact ⟨rfl, rfl⟩
  · by_cases hT : rT x b = 0
    · rw [hT]; unfold rnP rnF; simp
    · have hl := len_pos hT
      obtain ⟨a1, a2⟩ := big_eq (m := m) (neg := neg) (E := C - jB b) hT (by unfold lgN; omega)
      obtain ⟨b1, b2⟩ := big_eq (m := m) (neg := neg) (E := D - jB b) hT (by unfold lgN; omega)
      rw [a1, a2, b1, b2]; exact ⟨rfl, rfl⟩
  · by_cases hT : rT x b = 0
    · rw [hT]; unfold rnP rnF; simp
    · have hlt := rT_lt hx b
      obtain ⟨k, hk⟩ : ∃ k : Nat, k = 300 := ⟨300, rfl⟩
      have hfp := far_pow (show 300 ≤ k by omega)
      have hl : bitLen (rT x b) ≤ k := len_le (by omega)
      obtain ⟨a1, a2⟩ := low_eq (m := m) (neg := neg) (E := C - jB b) hT (by unfold lgN; omega)
      obtain ⟨b1, b2⟩ := low_eq (m := m) (neg := neg) (E := D - jB b) hT (by unfold lgN; omega)
      rw [a1, a2, b1, b2]; exact ⟨rfl, rfl⟩
/-! ### the document's flags and pattern -/
end Go.Rn
