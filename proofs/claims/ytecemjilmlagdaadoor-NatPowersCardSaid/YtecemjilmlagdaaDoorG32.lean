/-
  PLAIN ARITHMETIC: bits of words of 64, as the model's operators write them.
-/
import GoSem.Core.Sem
import Derived.Test.YtecemjilmlagdaaDoorG31
namespace Go.Pt

def bAnd (x y : Int) : Int := IntKind.u64.wrap ((BitVec.ofInt 64 x &&& BitVec.ofInt 64 y).toNat : Nat)
def bOr (x y : Int) : Int := IntKind.u64.wrap ((BitVec.ofInt 64 x ||| BitVec.ofInt 64 y).toNat : Nat)
def bXor (x y : Int) : Int := IntKind.u64.wrap ((BitVec.ofInt 64 x ^^^ BitVec.ofInt 64 y).toNat : Nat)
def bNot (x y : Int) : Int := IntKind.u64.wrap ((BitVec.ofInt 64 x &&& ~~~(BitVec.ofInt 64 y)).toNat : Nat)
abbrev U (p : Int) : Prop := 0 ≤ p ∧ p < 18446744073709551616
abbrev I (n : Int) : Prop := -9223372036854775808 ≤ n ∧ n ≤ 9223372036854775807

theorem wrapU (n : Int) : IntKind.u64.wrap n = n % 18446744073709551616 := by simp [IntKind.wrap, IntKind.bits, IntKind.signed]
theorem wrapU' {n : Int} (h : U n) : IntKind.u64.wrap n = n := by rw [wrapU]; unfold U at h; omega
theorem wrapI' {n : Int} (h : I n) : IntKind.i64.wrap n = n := by
  unfold I at h
  simp [IntKind.wrap, IntKind.bits, IntKind.signed]; omega
theorem ofU {Z : Nat} (h : Z < 18446744073709551616) : (BitVec.ofInt 64 (Z : Int)).toNat = Z := by simp; omega
theorem back {V : BitVec 64} : IntKind.u64.wrap (V.toNat : Nat) = (V.toNat : Int) := by
  have := V.isLt
  exact wrapU' ⟨by omega, by omega⟩
theorem and_mask (x k j : Nat) : x &&& (2 ^ k * (2 ^ j - 1)) = 2 ^ k * (x / 2 ^ k % 2 ^ j) := by
  refine Nat.eq_of_testBit_eq fun i => ?_
  rw [Nat.testBit_and, Nat.testBit_two_pow_mul, Nat.testBit_two_pow_sub_one, Nat.testBit_two_pow_mul, Nat.testBit_mod_two_pow, Nat.testBit_div_two_pow]
  by_cases h : k ≤ i
  · have e : k + (i - k) = i := by omega
    have e' : i - k + k = i := by omega
    simp [h, e', Bool.and_comm]
  · simp [h]
theorem bAnd_mask {p m : Int} (k j : Nat) (hp : U p) (hm : m = ((2 ^ k * (2 ^ j - 1) : Nat) : Int)) (hk : 2 ^ k * (2 ^ j - 1) < 18446744073709551616) : bAnd p m = 2 ^ k * (p / 2 ^ k % 2 ^ j) := by
  obtain ⟨h0, h1⟩ := hp
  obtain ⟨Z, rfl⟩ := Int.eq_ofNat_of_zero_le h0
  unfold bAnd
  rw [back, BitVec.toNat_and, ofU (by omega), hm, ofU hk, and_mask]
  simp
theorem or_low {p q : Int} (k : Nat) {z : Int} (hz : 0 ≤ z) (hq : q = 2 ^ k * z) (hp : 0 ≤ p) (hk : p < 2 ^ k) (hs : q + p < 18446744073709551616) : bOr p q = q + p := by
  obtain ⟨Z, rfl⟩ := Int.eq_ofNat_of_zero_le hz
  obtain ⟨Y, rfl⟩ := Int.eq_ofNat_of_zero_le hp
  have ex : (2 : Int) ^ k * (Z : Nat) = ((2 ^ k * Z : Nat) : Int) := by simp
  have hY : Y < 2 ^ k := by
    have : ((Y : Nat) : Int) < ((2 ^ k : Nat) : Int) := by simpa using hk
    exact Int.ofNat_lt.1 this
  subst hq
  rw [ex] at hs ⊢
  have hX : 2 ^ k * Z + Y < 18446744073709551616 := by omega
  unfold bOr
  rw [back, BitVec.toNat_or, ofU (by omega), ofU (by omega), Nat.or_comm, ← Nat.two_pow_add_eq_or_of_lt hY]
  omega
theorem bNot_sign {p : Int} (hp : U p) : bNot p 9223372036854775808 = p % 9223372036854775808 := by
  obtain ⟨h0, h1⟩ := hp
  obtain ⟨Z, rfl⟩ := Int.eq_ofNat_of_zero_le h0
  unfold bNot
  have e : (~~~(BitVec.ofInt 64 9223372036854775808)).toNat = 2 ^ 63 - 1 := by decide
  rw [back, BitVec.toNat_and, ofU (by omega), e, Nat.and_two_pow_sub_one_eq_mod]
  omega
theorem xor_sign (r : Nat) (h : r < 2 ^ 63) : r ^^^ 2 ^ 63 = 2 ^ 63 + r := by
  have e : 2 ^ 63 + r = 2 ^ 63 ||| r := by
    have := Nat.two_pow_add_eq_or_of_lt h 1
    simpa using this
  rw [e]
  refine Nat.eq_of_testBit_eq fun i => ?_
  rw [Nat.testBit_xor, Nat.testBit_or, Nat.testBit_two_pow]
  by_cases hi : 63 = i
  · subst hi
    rw [Nat.testBit_lt_two_pow h]
    simp
  · simp [hi]
theorem bXor_sign {p : Int} (hp : U p) : bXor p 9223372036854775808 = (p + 9223372036854775808) % 18446744073709551616 := by
  obtain ⟨h0, h1⟩ := hp
  obtain ⟨Z, rfl⟩ := Int.eq_ofNat_of_zero_le h0
  unfold bXor
  have e : (BitVec.ofInt 64 9223372036854775808).toNat = 2 ^ 63 := by decide
  rw [back, BitVec.toNat_xor, ofU (by omega), e]
  by_cases hz : Z < 2 ^ 63
  · rw [xor_sign Z hz]
    omega
  · have h2 := xor_sign (Z - 2 ^ 63) (by omega)
    have e2 : Z = (Z - 2 ^ 63) ^^^ 2 ^ 63 := by rw [h2]; omega
    have e3 : Z ^^^ 2 ^ 63 = Z - 2 ^ 63 := by
      rw [e2, Nat.xor_assoc, Nat.xor_self, Nat.xor_zero, ← e2]
    rw [e3]
    omega
theorem bAnd_frac {p : Int} (hp : U p) : bAnd p 4503599627370495 = p % 4503599627370496 := by
  rw [bAnd_mask 0 52 hp (by rfl) (by decide)]
  simp
theorem bAnd_sign {p : Int} (hp : U p) : bAnd p 9223372036854775808 = 9223372036854775808 * (p / 9223372036854775808 % 2) := bAnd_mask 63 1 hp (by rfl) (by decide)
theorem bAnd_quiet {p : Int} (hp : U p) : bAnd p 2251799813685248 = 2251799813685248 * (p / 2251799813685248 % 2) := bAnd_mask 51 1 hp (by rfl) (by decide)
theorem bAnd_inf {p : Int} (hp : U p) : bAnd p 9218868437227405312 = 4503599627370496 * (p / 4503599627370496 % 2048) := bAnd_mask 52 11 hp (by rfl) (by decide)
theorem bAnd_exp {p : Int} (hp : U p) : bAnd p 2047 = p % 2048 := by
  rw [bAnd_mask 0 11 hp (by rfl) (by decide)]
  simp
theorem bAnd_nib {p : Int} (hp : U p) : bAnd p 15 = p % 16 := by
  rw [bAnd_mask 0 4 hp (by rfl) (by decide)]
  simp

/-! ### a pattern's parts -/
def sgn (p : Int) : Bool := decide (9223372036854775808 ≤ p)
def mag (p : Int) : Int := p % 9223372036854775808
def ex (p : Int) : Int := p / 4503599627370496 % 2048
def fr (p : Int) : Int := p % 4503599627370496
def cl (p : Int) : Int := if ex p = 0 then (if fr p = 0 then 0 else 1) else if ex p = 2047 then (if fr p = 0 then 3 else if 2251799813685248 ≤ fr p then 4 else 5) else 2
def xp (p : Int) : Int := if ex p = 0 then -1074 else if ex p = 2047 then 0 else ex p - 1075
def sg (p : Int) : Int := if ex p = 0 then fr p else if ex p = 2047 then fr p else fr p + 4503599627370496
theorem ex_mag (p : Int) : mag p / 4503599627370496 = ex p := by unfold mag ex; omega
theorem ex_lt (p : Int) : 0 ≤ ex p ∧ ex p < 2048 := by unfold ex; omega
theorem fr_lt (p : Int) : 0 ≤ fr p ∧ fr p < 4503599627370496 := by unfold fr; omega
theorem of_parts {p : Int} (hp : U p) : p = (if sgn p = true then 9223372036854775808 else 0) + 4503599627370496 * ex p + fr p := by
  unfold sgn ex fr U at *
  split <;> rename_i h <;> simp only [decide_eq_true_eq] at h <;> omega
end Go.Pt

/-
  nat.guess and nat.takeDigit, as calls.
-/
namespace Go.Proofs.YtecemjilmlagdaaDoor
open Go.KRun Go.Nt
set_option maxRecDepth 100000
set_option linter.unusedVariables false

def gsV (h l b : Int) : Int := if b ≤ h then 4294967295 else (h * 4294967296 + l) / b
def gsOk (h l b : Int) : Bool := decide ((0 ≤ h ∧ h < 4294967296) ∧ (0 ≤ l ∧ l < 4294967296) ∧ 0 < b ∧ b < 4294967296)
theorem gs_hi (h l b : Int) : Fits (reckon (tabOf Tryd.prog extY conN true) 100 66 [uu h, uu l, uu b] [cmp true]) (uu 4294967295) [(decide (h ≥ b), true)] := ⟨by kernel_rfl, by kernel_rfl, by kernel_rfl, by kernel_rfl⟩
theorem gs_lo (h l b q : Int) : Fits (reckon (tabOf Tryd.prog extY conN true) 100 66 [uu h, uu l, uu b] [cmp false, num q]) (uu (IntKind.u32.wrap q)) [(decide (IntKind.u64.wrap b = 0), false), (decide (IntKind.u64.wrap ((Go.Pt.bOr (IntKind.u64.wrap (IntKind.u64.wrap h * 2 ^ min (Int.toNat 32) 64)) (IntKind.u64.wrap l)).tdiv (IntKind.u64.wrap b)) = q), true), (decide ((32 : Int) < 0), false), (decide (h ≥ b), false)] := ⟨by kernel_rfl, by kernel_rfl, by kernel_rfl, by kernel_rfl⟩
theorem or_swap (p q : Int) : Go.Pt.bOr p q = Go.Pt.bOr q p := by unfold Go.Pt.bOr; rw [BitVec.or_comm]
def gGs : Ans := fun vals s =>
  match vals with
  | [.int .u32 h, .int .u32 l, .int .u32 b] => some (uu (gsV h l b), s, [(gsOk h l b, true)])
  | _ => none
theorem gGs_ok : AnsOk 66 gGs := by
  intro vals s v s' lg h hl w
  unfold gGs at h
  split at h
  · rename_i x y z
    cases h
    have hr := hl _ (List.mem_singleton.2 rfl)
    simp only [gsOk, decide_eq_true_eq] at hr
    obtain ⟨hx, hy, hz⟩ := hr
    unfold gsV
    by_cases hc : z ≤ x
    · rw [if_pos hc]
      exact fits_calls (tabY_ok conN_ok) (gs_hi x y z) (okOne (decide_eq_true hc)) (by rfl) (by rfl) w
    · rw [if_neg hc]
      have hb := guess_lt hx.1 hy (show x < z by omega)
      have e1 : Go.Pt.bOr (IntKind.u64.wrap (IntKind.u64.wrap x * 2 ^ min (Int.toNat 32) 64)) (IntKind.u64.wrap y) = x * 4294967296 + y := by
        simp only [u64w]
        rw [Int.emod_eq_of_lt hx.1 (by omega), Int.emod_eq_of_lt hy.1 (by omega), show ((2 : Int) ^ min (Int.toNat 32) 64) = 4294967296 from by decide, Int.emod_eq_of_lt (by omega) (by omega), or_swap]
        exact Go.Pt.or_low 32 (z := x) hx.1 (by omega) hy.1 (by omega) (by omega)
      have e2 : IntKind.u64.wrap z = z := by rw [u64w, Int.emod_eq_of_lt (by omega) (by omega)]
      have e3 : IntKind.u32.wrap ((x * 4294967296 + y) / z) = (x * 4294967296 + y) / z := by rw [u32w, Int.emod_eq_of_lt hb.1 hb.2]
      have := fits_calls (tabY_ok conN_ok) (gs_lo x y z ((x * 4294967296 + y) / z)) (okTwo (by rw [e2]; exact decide_eq_false (by omega)) (okTwo (by rw [e1, e2, Int.tdiv_eq_ediv_of_nonneg (by omega), u64w, Int.emod_eq_of_lt hb.1 (by omega)]; exact decide_eq_true rfl) (okTwo (by decide) (okOne (decide_eq_false (by omega)))))) (by rfl) (by rfl) w
      rw [e3] at this
      exact this
  · cases h
def conG : Con := alt 66 gGs conN
theorem conG_ok : ConOk conG := alt_ok Tryd.func66 rfl gGs_ok conN_ok
def hcG : Hc := altH 67 gTo5 (altH 68 gPb5 hcN)
theorem hcG_ok : HcOk hcG := altH_ok Tryd.func67 rfl gTo5_ok (altH_ok Tryd.func68 rfl gPb5_ok hcN_ok)
def tdP (F : Func) : List Code := [cFst (sn 0 F), cFst (sn 1 F), cFst (sn 2 F)]
def tdB (F : Func) : Code := cFst (sn 3 F)
def tdL (F : Func) : Code := cIn (cIn (cSnd (tdB F)))
def tdF (o m c n k : Nat) (d : Int) : List Value := [sl 2 o m c, sl 3 0 n k, undef, undef, uu 0, i6' n, uu d]
def tdG (o m c n k : Nat) (d : Int) (b : Bool) : List Value := [sl 2 o m c, sl 3 0 n k, undef, undef, uu 0, i6' n, uu d, .bool b]
theorem td_body : Tryd.f48.body = some (seqs (tdP Tryd.f48) (.seq (.seq (cFst (tdB Tryd.f48)) (.block 0 (.loop (tdL Tryd.f48)))) (sn 4 Tryd.f48))) := by kernel_rfl
theorem td_pre (o m c n k : Nat) (x y z : Int) (la lb R Y Q : List Value) : GoesT (evL (tabH Tryd.prog extY conG hcG) 100 (tdP Tryd.f48) ([sl 2 o m c, sl 3 0 n k] ++ List.replicate 35 undef, h5 la lb R Y Q, [at_, val (uu x), at_, val (uu y), at_, val (uu z)]) ⟨[], [], []⟩) 7 30 none (tdF o m c n k (gsV x y z)) (h5 la lb R Y Q) [(gsOk x y z, true), celR Y 0 (n1 n) z, inR (n1 n) n, celR R o (n1 n) y, inR (n1 n) m, celR R o n x, inR n m] := ⟨by kernel_rfl, by kernel_rfl, by kernel_rfl⟩
theorem td_r (e : Bool) (o m c n k : Nat) (d : Int) (la lb R Y Q : List Value) (g : Nat → Value) : GoesT (evC (tabH Tryd.prog extY conG hcG) 100 false (cFst (tdB Tryd.f48)) (tdF o m c n k d ++ tl 30 g, h5 la lb R Y Q, [cmp e]) ⟨[], [], []⟩) 8 29 none (tdG o m c n k d e) (h5 la lb (tmS R o m (dg m (vN (cutI R o m) - d * vN (cutI Y 0 n)))) Y Q) [(okTo la lb R Y Q tR tR tU tU tU o m c n k && decide (0 ≤ d ∧ d < 4294967296), true), (decide (vN (cutI R o m) - d * vN (cutI Y 0 n) < 0), e)] := ⟨by kernel_rfl, by kernel_rfl, by kernel_rfl⟩
theorem td_go (e : Bool) (o m c n k : Nat) (d : Int) (la lb R Y Q : List Value) (g : Nat → Value) : GoesT (evC (tabH Tryd.prog extY conG hcG) 100 false (tdL Tryd.f48) (tdG o m c n k d true ++ tl 29 g, h5 la lb R Y Q, [cmp e]) ⟨[], [], []⟩) 8 29 none (tdG o m c n k (IntKind.u32.wrap (d - 1)) (!e)) (h5 la lb (tmS R o m (dg m (vN (cutI R o m) + vN (cutI Y 0 n)))) Y Q) [(okTo la lb R Y Q tR tR tU tU tU o m c n k, true), (decide (4294967296 ^ m ≤ vN (cutI R o m) + vN (cutI Y 0 n)), e)] := ⟨by kernel_rfl, by kernel_rfl, by kernel_rfl⟩
theorem td_out (o m c n k : Nat) (d : Int) (h : Hp) (g : Nat → Value) : GoesT (evC (tabH Tryd.prog extY conG hcG) 100 false (tdL Tryd.f48) (tdG o m c n k d false ++ tl 29 g, h, []) ⟨[], [], []⟩) 8 29 (some (some 0)) (tdG o m c n k d false) h [] := ⟨by kernel_rfl, by kernel_rfl, by kernel_rfl⟩
theorem td_end (o m c n k : Nat) (d : Int) (b : Bool) (h : Hp) (g : Nat → Value) : GoesT (evC (tabH Tryd.prog extY conG hcG) 100 false (sn 4 Tryd.f48) (tdG o m c n k d b ++ tl 29 g, h, []) ⟨[], [], []⟩) 5 32 (some none) [sl 2 o m c, sl 3 0 n k, undef, undef, uu d] h [] := ⟨by kernel_rfl, by kernel_rfl, by kernel_rfl⟩
theorem cut_tmS {R : List Value} {o m c : Nat} {L : List Int} (ra : rowOk tU R o m c = true) (hl : L.length = m) : cutI (tmS R o m L) o m = L := by
  obtain ⟨_, hF⟩ := row_parts ra
  unfold tmS cutI cutV
  rw [List.drop_left' hF, List.take_left' (by rw [wU_len, hl])]
  unfold wU
  rw [List.map_map]
  exact (List.map_congr_left fun x _ => rfl).trans (List.map_id' _)
theorem tmS_tmS {R : List Value} {o m c : Nat} {L L' : List Int} (ra : rowOk tU R o m c = true) (hl : L.length = m) : tmS (tmS R o m L) o m L' = tmS R o m L' := by
  obtain ⟨_, hF⟩ := row_parts ra
  have e1 : (tmS R o m L).take o = R.take o := by unfold tmS; exact List.take_left' hF
  have e2 : (tmS R o m L).drop (o + m) = R.drop (o + m) := by
    unfold tmS
    rw [← List.append_assoc]
    exact List.drop_left' (by rw [List.length_append, hF, wU_len, hl])
  show (tmS R o m L).take o ++ (wU L' ++ (tmS R o m L).drop (o + m)) = _
  rw [e1, e2]
  rfl
theorem row_tmS {R : List Value} {o m c : Nat} {L : List Int} (ra : rowOk tU R o m c = true) (hl : L.length = m) (hw : wds L) : rowOk tU (tmS R o m L) o m c = true := by
  obtain ⟨a1, a2, a3, a4, a5, a6, a7⟩ := row_of ra
  obtain ⟨_, hF⟩ := row_parts ra
  have hr := a1.len
  rw [a2] at hr
  unfold rowOk
  have ec : cutV (tmS R o m L) o m = wU L := by
    unfold tmS cutV
    rw [List.drop_left' hF, List.take_left' (by rw [wU_len, hl])]
  have h3 : ((cutV (tmS R o m L) o m).all isU) = true := by
    rw [ec, List.all_eq_true]
    intro v hv
    unfold wU at hv
    obtain ⟨x, hx, rfl⟩ := List.mem_map.1 hv
    exact decide_eq_true (hw x hx)
  have h4 : (tmS R o m L).all still = true := by
    unfold tmS
    simp only [List.all_append, Bool.and_eq_true]
    exact ⟨List.all_eq_true.2 fun v hv => a7 v (List.mem_of_mem_take hv), wU_allS _, List.all_eq_true.2 fun v hv => a7 v (List.mem_of_mem_drop hv)⟩
  have h5 : o + m ≤ (tmS R o m L).length := by
    unfold tmS
    rw [List.length_append, List.length_append, hF, wU_len, hl]
    omega
  rw [show tomb tU = false from by kernel_rfl, show Nat.beq (rt tU) tU = true from by kernel_rfl, Nat.ble_eq_true_of_le h5, Nat.ble_eq_true_of_le a3, a4, h3, h4]
  rfl
theorem td_runs {la lb R Y Q : List Value} {o m c n k : Nat} {M LB : List Int} (hM : cutI R o m = M) (hB : cutI Y 0 n = LB) (hok : okTo la lb R Y Q tR tR tU tU tU o m c n k = true) (hn : 0 < n) (htop : 0 < LB.getD (n - 1) 0) (hlt : vN M < 4294967296 * vN LB) :
    Runs (tabH Tryd.prog extY conG hcG) (seqs (tdP Tryd.f48) (.seq (.seq (cFst (tdB Tryd.f48)) (.block 0 (.loop (tdL Tryd.f48)))) (sn 4 Tryd.f48))) ([sl 2 o m c, sl 3 0 n k] ++ List.replicate 35 undef, h5 la lb R Y Q, []) fun e' y => (e' = none ∨ e' = some none) ∧ resS Tryd.prog Tryd.f48 y.1 y.2.1 = some (uu (vN M / vN LB)) ∧ y.2.1.cut 5 = h5 la lb (tmS R o m (dg m (vN M % vN LB))) Y Q := by
  have hT := tabH_ok conG_ok hcG_ok
  obtain ⟨_, _, _, _, _, ra, rb, qn, qN, st0, st1, st2⟩ := okTo_of hok
  obtain ⟨a1, a2, a3, a4, a5, a6, a7⟩ := row_of ra
  obtain ⟨b1, b2, b3, b4, b5, b6, b7⟩ := row_of rb
  rw [hM] at a1 a2
  rw [hB] at b1 b2
  have w1 := a1.rng
  have w2 := b1.rng
  have bM := vN_bd M w1
  have bB := vN_bd LB w2
  rw [a2] at bM
  rw [b2] at bB
  have hpos : 0 < vN LB := by
    have := vN_low (L := LB) w2 (by omega) (by rw [b2]; omega)
    have h2 := pw_pos (LB.length - 1)
    omega
  have hge := guess_ge w1 w2 (n := n) (by omega) b2 hn htop
  have en : n1 n = ((n - 1 : Nat) : Int) := by unfold n1; rw [wrapI (by omega) (by omega)]; omega
  have rng : ∀ i, i < M.length → 0 ≤ M.getD i 0 ∧ M.getD i 0 < 4294967296 := fun i hi => w1 _ (by simp [List.getD, List.getElem?_eq_getElem hi])
  have rngB : ∀ i, i < LB.length → 0 ≤ LB.getD i 0 ∧ LB.getD i 0 < 4294967296 := fun i hi => w2 _ (by simp [List.getD, List.getElem?_eq_getElem hi])
  have r1 := rng n (by omega)
  have r2 := rng (n - 1) (by omega)
  have r3 := rngB (n - 1) (by omega)
  have c1 := a1.cell (k := n) (by omega)
  have c2 := a1.cell (k := n - 1) (by omega)
  have c3 := b1.cell (k := n - 1) (by omega)
  have hq := digit_lt hpos bM.1 hlt
  have hG : vN M / vN LB ≤ gsV (M.getD n 0) (M.getD (n - 1) 0) (LB.getD (n - 1) 0) ∧ 0 ≤ gsV (M.getD n 0) (M.getD (n - 1) 0) (LB.getD (n - 1) 0) ∧ gsV (M.getD n 0) (M.getD (n - 1) 0) (LB.getD (n - 1) 0) < 4294967296 := by
    unfold gsV
    split
    · omega
    · have := guess_lt r1.1 r2 (b := LB.getD (n - 1) 0) (by omega)
      omega
  have g0 := td_pre o m c n k (M.getD n 0) (M.getD (n - 1) 0) (LB.getD (n - 1) 0) la lb R Y Q
  rw [en] at g0
  refine goesT_list hT g0 (okTwo (by unfold gsOk; exact decide_eq_true ⟨r1, r2, htop, r3.2⟩) (okTwo (cel_ok c3) (okTwo (decide_eq_true (by omega)) (okTwo (cel_ok c2) (okTwo (decide_eq_true (by omega)) (okTwo (cel_ok c1) (okOne (decide_eq_true (by omega))))))))) fun g => ?_
  generalize gsV (M.getD n 0) (M.getD (n - 1) 0) (LB.getD (n - 1) 0) = d at *
  refine Runs.seq (P1 := fun e' y => e' = none ∧ ∃ g, y.1 = tdG o m c n k (vN M / vN LB) false ++ tl 29 g ∧ y.2.1 = h5 la lb (tmS R o m (dg m (vN M % vN LB))) Y Q) ?_ ?_ (fun e y he => by cases he.1)
  · have g1 := td_r (decide (vN M - d * vN LB < 0)) o m c n k d la lb R Y Q g
    rw [hM, hB] at g1
    refine Runs.seq (P1 := fun e' y => e' = none ∧ (∃ g, y.1 = tdG o m c n k d (decide (vN M - d * vN LB < 0)) ++ tl 29 g) ∧ y.2.1 = h5 la lb (tmS R o m (dg m (vN M - d * vN LB))) Y Q) (goesT_runs hT g1 (okTwo (by rw [hok, decide_eq_true hG.2]; rfl) (okOne rfl))) ?_ (fun e y he => by cases he.1)
    rintro ⟨t, h', s'⟩ ⟨_, ⟨g1, ht⟩, hh⟩
    simp only at ht hh
    subst ht hh
    refine (Runs.forLoop (R := fun _ => False) (P := fun y => ∃ g, y.1 = tdG o m c n k (vN M / vN LB) false ++ tl 29 g ∧ y.2.1 = h5 la lb (tmS R o m (dg m (vN M % vN LB))) Y Q)
      (fun r y => ∃ (d : Int) (g : Nat → Value), d = vN M / vN LB + r ∧ d < 4294967296 ∧ y.1 = tdG o m c n k d (decide (vN M - d * vN LB < 0)) ++ tl 29 g ∧ y.2.1 = h5 la lb (tmS R o m (dg m (vN M - d * vN LB))) Y Q)
      ?_ (n := (d - vN M / vN LB).toNat) ⟨d, g1, by omega, hG.2.2, rfl, rfl⟩).mono fun e' y he => ?_
    · rintro r ⟨t, h', s'⟩ ⟨d, g, hd, hdl, ht, hh⟩
      simp only at ht hh
      subst ht hh
      by_cases hneg : vN M - d * vN LB < 0
      · rw [decide_eq_true hneg]
        have hmore := more_than hpos hneg
        have hlo : -(4294967296 ^ m) ≤ vN M - d * vN LB := by
          have h1 : d * vN LB ≤ 4294967296 * vN LB := Int.mul_le_mul_of_nonneg_right (by omega) (by omega)
          rw [qn, pw]
          omega
        have hvd := neg_dg hneg hlo
        have hwd := dg_wds m (vN M - d * vN LB)
        have hld := dg_len m (vN M - d * vN LB)
        have ra' := row_tmS ra hld hwd
        have ec := cut_tmS ra hld
        have eV : vN M - d * vN LB + 4294967296 ^ m + vN LB = (vN M - (d - 1) * vN LB) + 4294967296 ^ m * 1 := by
          rw [Int.sub_mul, Int.one_mul, Int.mul_one]
          omega
        have g2 := td_go (decide (4294967296 ^ m ≤ vN M - d * vN LB + 4294967296 ^ m + vN LB)) o m c n k d la lb (tmS R o m (dg m (vN M - d * vN LB))) Y Q g
        rw [ec, hB, hvd, eV, dg_mod, tmS_tmS ra hld, u32w, Int.emod_eq_of_lt (by omega) (by omega)] at g2
        have hok' : okTo la lb (tmS R o m (dg m (vN M - d * vN LB))) Y Q tR tR tU tU tU o m c n k = true := by
          unfold okTo at hok ⊢
          rw [ra'] 
          rw [ra] at hok
          exact hok
        refine (goesT_runs hT g2 (okTwo hok' (okOne rfl))).mono fun e' y he => ?_
        obtain ⟨rfl, ⟨g3, e2⟩, e3⟩ := he
        refine ⟨r - 1, by omega, d - 1, g3, by omega, by omega, ?_, e3⟩
        rw [e2]
        congr 2
        by_cases h0 : vN M - (d - 1) * vN LB < 0
        · rw [decide_eq_true h0, decide_eq_false (by omega)]
          rfl
        · rw [decide_eq_false h0, decide_eq_true (by omega)]
          rfl
      · rw [decide_eq_false hneg]
        obtain ⟨f1, f2⟩ := rest_is hpos (show 0 ≤ vN M - d * vN LB by omega) (show vN M / vN LB ≤ d by omega)
        refine (goesT_runs hT (td_out o m c n k d _ g) (fun x hx => by cases hx)).mono fun e' y he => ?_
        obtain ⟨rfl, ⟨g3, e2⟩, e3⟩ := he
        rw [f2] at e3
        rw [f1] at e2
        exact ⟨rfl, g3, e2, e3⟩
    · match e', he with
      | none, he => exact ⟨rfl, he⟩
      | some none, he => exact he.elim
      | some (some _), he => exact he.elim
  · rintro ⟨t, h', s'⟩ ⟨_, g, ht, hh⟩
    simp only at ht hh
    subst ht hh
    refine (goesT_runs hT (td_end o m c n k (vN M / vN LB) false _ g) (fun x hx => by cases hx)).mono fun e' y he => ?_
    obtain ⟨rfl, ⟨g1, e2⟩, e3⟩ := he
    refine ⟨.inr rfl, ?_, ?_⟩
    · rw [e2, e3]; rfl
    · rw [e3]; rfl
def gTd5 : AnsH := fun vals h s =>
  match vals, h with
  | [.slice (some ⟨2, o, none⟩) m c, .slice (some ⟨3, 0, none⟩) n k], ⟨5, [(Q, t4), (Y, t3), (R, t2), (lb, t1), (la, t0)]⟩ => some (uu (vN (cutI R o m) / vN (cutI Y 0 n)), h5 la lb (tmS R o m (dg m (vN (cutI R o m) % vN (cutI Y 0 n)))) Y Q, s, [(okTo la lb R Y Q t0 t1 t2 t3 t4 o m c n k && decide (0 < n ∧ 0 < (cutI Y 0 n).getD (n - 1) 0 ∧ vN (cutI R o m) < 4294967296 * vN (cutI Y 0 n)), true)])
  | _, _ => none
theorem gTd5_ok : AnsHOk 48 gTd5 := by
  intro vals h s v h' s' lg hg hl m B w E hv
  unfold gTd5 at hg
  split at hg
  · rename_i o mm c n k Q t4 Y t3 R t2 lb t1 la t0
    cases hg
    have l1 := hl _ (List.mem_singleton.2 rfl)
    simp only [Bool.and_eq_true, decide_eq_true_eq] at l1
    obtain ⟨l1, h0, h1, h2⟩ := l1
    obtain ⟨q0, q1, q2, q3, q4, ra, rb, qn, qN, st0, st1, st2⟩ := okTo_of l1
    subst q0 q1 q2 q3 q4
    have r := td_runs rfl rfl l1 h0 h1 h2
    exact hcalls_of_runs (T := tabH Tryd.prog extY conG hcG) Tryd.func48 td_body (vals := [sl 2 o mm c, sl 3 0 n k]) (v := uu (vN (cutI R o mm) / vN (cutI Y 0 n))) (h := h5 la lb R Y Q) (by rfl) (tight5 ra rb st0 st1 st2) r m B w E hv
  · cases hg
end Go.Proofs.YtecemjilmlagdaaDoor

/-
  nat.moveUp among four blocks.
-/
namespace Go.Proofs.YtecemjilmlagdaaDoor
open Go.KRun Go.Nt
set_option maxRecDepth 100000
set_option linter.unusedVariables false

def mB (q : Bool) : Nat := match q with | true => 3 | false => 2
def h4q (q : Bool) (S X la lb : List Value) : Hp := match q with | true => ⟨4, [(S, tU), (X, tU), (lb, tR), (la, tR)]⟩ | false => ⟨4, [(X, tU), (S, tU), (lb, tR), (la, tR)]⟩
theorem h4q_cut (q : Bool) (S X la lb : List Value) : (h4q q S X la lb).cut 4 = h4q q S X la lb := by cases q <;> rfl
theorem mup4_go (q : Bool) (o n c : Nat) (k l j x : Int) (i0 x0 : Value) (X la lb S : List Value) (g : Nat → Value) : GoesT (evC (tabOf Tryd.prog extY conN true) 100 false (mL Tryd.f47) (mF (sl (mB q) o n c) (i6' k) (uu l) i0 x0 (sl (mB q) o n c) (i6' n) (i6' j) ++ tl 17 g, h4q q S X la lb, [cmp true, at_, val (uu x), at_, at_]) ⟨[], [], []⟩) 10 17 none
    (mF (sl (mB q) o n c) (i6' k) (uu (lowU x k)) (i6' j) (uu x) (sl (mB q) o n c) (i6' n) (i6' (IntKind.i64.wrap (j + 1)))) (h4q q (S.set (o + j.toNat * 1) (uu (newU x k l))) X la lb) [(decide (IntKind.i64.wrap (32 - k) < 0), false), (decide (o + j.toNat * 1 < S.length), true), inR j n, (decide (k < 0), false), celR S o j x, inR j n, (decide (j < n), true)] := by
  cases q <;> exact ⟨by kernel_rfl, by kernel_rfl, by kernel_rfl⟩
theorem mup4_runs (q : Bool) {F X la lb G : List Value} {o c k : Nat} {L : List Int} (hF : F.length = o) (hL : wds L) (hk : k < 32) (hN : L.length < 4611686018427387904) :
    Runs (tabOf Tryd.prog extY conN true) (seqs (mR0 Tryd.f47) (.block 0 (.loop (mL Tryd.f47)))) ([sl (mB q) o L.length c, i6' k] ++ List.replicate 25 undef, h4q q (F ++ (wU L ++ G)) X la lb, []) fun e y => (e = none ∨ e = some none) ∧ resS Tryd.prog Tryd.f47 y.1 y.2.1 = some (.tuple #[]) ∧ y.2.1.cut 4 = h4q q (F ++ (wU (dg L.length (vN L * 2 ^ k)) ++ G)) X la lb := by
  refine goesT_list (tabY_ok conN_ok) (mup_pre (mB q) o L.length c (i6' k) _) (fun x hx => by cases hx) fun g => ?_
  refine (Runs.forLoop (R := fun _ => False) (P := fun y => ∃ (l i x j : Value) (g : Nat → Value), y.1 = mF (sl (mB q) o L.length c) (i6' k) l i x (sl (mB q) o L.length c) (i6' L.length) j ++ tl 17 g ∧ y.2.1 = h4q q (F ++ (wU (dg L.length (vN L * 2 ^ k)) ++ G)) X la lb)
    (fun r y => ∃ (dx px : List Int) (l : Int) (i0 x0 : Value) (g : Nat → Value), px.length = r ∧ dx.length + px.length = L.length ∧ wds dx ∧ wds px ∧ (0 ≤ l ∧ l < 2 ^ k) ∧ y.1 = mF (sl (mB q) o L.length c) (i6' k) (uu l) i0 x0 (sl (mB q) o L.length c) (i6' L.length) (i6' dx.length) ++ tl 17 g ∧ y.2.1 = h4q q (F ++ (wU (dx ++ px) ++ G)) X la lb ∧ vN dx + 4294967296 ^ dx.length * (vN px * 2 ^ k + l) = vN L * 2 ^ k)
    ?_ (n := L.length) ⟨[], L, 0, undef, undef, g, rfl, by simp, (fun x hx => by cases hx), hL, ⟨by omega, Int.pow_pos (by omega)⟩, rfl, rfl, by simp [vN]⟩).mono fun e' y he => ?_
  · rintro r ⟨t, h', s'⟩ ⟨dx, px, l, i0, x0, g, hr, hl, wd1, wd2, hlo, ht, hh, hv⟩
    simp only at ht hh
    subst ht hh
    match px, hr, hl, wd2, hv with
    | [], hr, hl, wd2, hv =>
      have hl' : dx.length = L.length := by simpa using hl
      refine (goesT_runs (tabY_ok conN_ok) (mup_out _ _ _ _ _ _ L.length dx.length _ g) (okOne (decide_eq_false (by omega)))).mono fun e' y he => ?_
      obtain ⟨rfl, ⟨g1, e2⟩, e3⟩ := he
      refine ⟨rfl, _, _, _, _, g1, e2, ?_⟩
      simp only [vN] at hv
      rw [Int.zero_mul, Int.zero_add] at hv
      have e5 := dg_mod dx.length (vN dx) l
      rw [hv, dg_vN dx wd1, hl'] at e5
      rw [e3, e5, List.append_nil]
    | x :: px, hr, hl, wd2, hv =>
      obtain ⟨wx, wd2⟩ := wds_tail wd2
      obtain ⟨k1, k2, k3⟩ := up32 wx hlo hk
      have cS := fR_get hF dx x px G
      have lS : o + dx.length < (F ++ (wU (dx ++ x :: px) ++ G)).length := (List.getElem?_eq_some_iff.1 cS).1
      have hl' : dx.length < L.length := by simp at hl; omega
      have l1 : decide (o + ((dx.length : Int)).toNat * 1 < (F ++ (wU (dx ++ x :: px) ++ G)).length) = true := by
        rw [Int.toNat_natCast, Nat.mul_one]
        exact decide_eq_true lS
      have l2 : (inR dx.length L.length).1 = (inR dx.length L.length).2 := decide_eq_true (by omega)
      have l4 : (celR (F ++ (wU (dx ++ x :: px) ++ G)) o dx.length x).1 = (celR (F ++ (wU (dx ++ x :: px) ++ G)) o dx.length x).2 := cel_ok cS
      have e32 : IntKind.i64.wrap (32 - (k : Int)) = 32 - (k : Int) := wrapI (by omega) (by omega)
      have l5 : decide (IntKind.i64.wrap (32 - (k : Int)) < 0) = false := by
        rw [e32]
        exact decide_eq_false (by omega)
      have l6 : decide ((k : Int) < 0) = false := decide_eq_false (by omega)
      have l7 : decide ((dx.length : Int) < (L.length : Nat)) = true := decide_eq_true (by omega)
      refine (goesT_runs (tabY_ok conN_ok) (mup4_go q o L.length c k l dx.length x i0 x0 X la lb (F ++ (wU (dx ++ x :: px) ++ G)) g) (okTwo l5 (okTwo l1 (okTwo l2 (okTwo l6 (okTwo l4 (okTwo l2 (okOne l7)))))))).mono fun e' y he => ?_
      obtain ⟨rfl, ⟨g1, e2⟩, e3⟩ := he
      refine ⟨px.length, by simp at hr; omega, dx ++ [newU x k l], px, lowU x k, i6' dx.length, uu x, g1, rfl, by simp at hl ⊢; omega, wds_app wd1 (fun z hz => by rw [List.mem_singleton.1 hz]; exact k1), wd2, k2, ?_, ?_, ?_⟩
      · rw [e2, wrapI (by omega) (by omega)]
        simp
      · rw [e3, Int.toNat_natCast, Nat.mul_one, fR_set hF]
      · simp only [vN] at hv
        rw [vN_snoc, List.length_append, List.length_singleton, pw]
        exact up_step k3 hv
  · match e', he with
    | none, he =>
      obtain ⟨l, i, x, j, g, e1, e2⟩ := he
      refine ⟨.inl rfl, ?_, ?_⟩
      · rw [e1]; exact mup_res _ _ _ _ _ _ _ _ _ _
      · rw [e2]; exact h4q_cut _ _ _ _ _
    | some none, he => exact he.elim
    | some (some _), he => exact he.elim
def okMv (X la lb S : List Value) (t0 t1 t2 t3 : TypeId) (o n c : Nat) (k : Int) : Bool := Nat.beq t0 tR && Nat.beq t1 tR && Nat.beq t2 tU && Nat.beq t3 tU && rowOk tU S o n c && X.all still && la.all still && lb.all still && decide (0 ≤ k ∧ k < 32)
theorem okMv_of {X la lb S : List Value} {t0 t1 t2 t3 : TypeId} {o n c : Nat} {k : Int} (q : okMv X la lb S t0 t1 t2 t3 o n c k = true) : t0 = tR ∧ t1 = tR ∧ t2 = tU ∧ t3 = tU ∧ rowOk tU S o n c = true ∧ X.all still = true ∧ la.all still = true ∧ lb.all still = true ∧ 0 ≤ k ∧ k < 32 := by
  unfold okMv at q
  simp only [Bool.and_eq_true, decide_eq_true_eq] at q
  obtain ⟨⟨⟨⟨⟨⟨⟨⟨q0, q1⟩, q2⟩, q3⟩, ra⟩, s0⟩, s1⟩, s2⟩, h⟩ := q
  exact ⟨Nat.eq_of_beq_eq_true q0, Nat.eq_of_beq_eq_true q1, Nat.eq_of_beq_eq_true q2, Nat.eq_of_beq_eq_true q3, ra, s0, s1, s2, h.1, h.2⟩
def upT (S : List Value) (o n : Nat) (k : Int) : List Value := tmS S o n (dg n (vN (cutI S o n) * 2 ^ k.toNat))
def gMup4 : AnsH := fun vals h s =>
  match vals, h with
  | [.slice (some ⟨3, o, none⟩) n c, .int .i64 k], ⟨4, [(S, t3), (X, t2), (lb, t1), (la, t0)]⟩ => some (.tuple #[], ⟨4, [(upT S o n k, tU), (X, tU), (lb, tR), (la, tR)]⟩, s, [(okMv X la lb S t0 t1 t2 t3 o n c k, true)])
  | [.slice (some ⟨2, o, none⟩) n c, .int .i64 k], ⟨4, [(X, t3), (S, t2), (lb, t1), (la, t0)]⟩ => some (.tuple #[], ⟨4, [(X, tU), (upT S o n k, tU), (lb, tR), (la, tR)]⟩, s, [(okMv X la lb S t0 t1 t2 t3 o n c k, true)])
  | _, _ => none
theorem tight4 (q : Bool) {X la lb S : List Value} {o n c : Nat} {L : List Int} (ra : rowOk tU S o n c = true) (s0 : X.all still = true) (s1 : la.all still = true) (s2 : lb.all still = true) : (h4q q (tmS S o n L) X la lb).tight = true := by
  obtain ⟨a1, a2, a3, a4, a5, a6, a7⟩ := row_of ra
  have hS : (tmS S o n L).all (lt1 4) = true := by
    unfold tmS
    simp only [List.all_append, Bool.and_eq_true]
    refine ⟨?_, wU_tight _ _, ?_⟩
    · rw [List.all_eq_true]
      exact fun v hv => still_lt (by omega) (a7 v (List.mem_of_mem_take hv))
    · rw [List.all_eq_true]
      exact fun v hv => still_lt (by omega) (a7 v (List.mem_of_mem_drop hv))
  have h1 := all_mono (n := 4) (by omega) s0
  have h2 := all_mono (n := 4) (by omega) s1
  have h3 := all_mono (n := 4) (by omega) s2
  cases q <;> simp [Hp.tight, h4q, hS, h1, h2, h3]
theorem mup4_call (q : Bool) {X la lb S : List Value} {o n c : Nat} {k : Int} (ra : rowOk tU S o n c = true) (s0 : X.all still = true) (s1 : la.all still = true) (s2 : lb.all still = true) (k0 : 0 ≤ k) (k1 : k < 32) (m : Mp) (B : Nat) (w : World) (E : Emb m B (h4q q S X la lb) w) (hv : ∀ v ∈ [sl (mB q) o n c, i6' k], KRun.lt (h4q q S X la lb).n v = true) :
    Calls Tryd.prog 47 (([sl (mB q) o n c, i6' k] : List Value).map (mv m)).toArray w fun e w' => ∃ m', e = .returned (mv m' (.tuple #[])) ∧ Came m B (h4q q S X la lb) w (.tuple #[]) (h4q q (upT S o n k) X la lb) m' w' := by
  obtain ⟨a1, a2, a3, a4, a5, a6, a7⟩ := row_of ra
  obtain ⟨K, rfl⟩ := Int.eq_ofNat_of_zero_le k0
  have hc : c < 4611686018427387904 := blt_iff.1 a4
  obtain ⟨eS, hF⟩ := row_parts ra
  have r := mup4_runs q (X := X) (la := la) (lb := lb) (G := S.drop (o + n)) (c := c) (k := K) hF a1.rng (by omega) (by omega)
  rw [a2, ← eS] at r
  have hn : (h4q q S X la lb).n = 4 := by cases q <;> rfl
  exact hcalls_of_runs (T := tabOf Tryd.prog extY conN true) Tryd.func47 mup_body (vals := [sl (mB q) o n c, i6' K]) (v := .tuple #[]) (h := h4q q S X la lb) (by rfl) (tight4 q ra s0 s1 s2) (by rw [hn]; exact r) m B w E hv
theorem gMup4_ok : AnsHOk 47 gMup4 := by
  intro vals h s v h' s' lg hg hl m B w E hv
  unfold gMup4 at hg
  split at hg
  · rename_i o n c k S t3 X t2 lb t1 la t0
    cases hg
    obtain ⟨q0, q1, q2, q3, ra, s0, s1, s2, k0, k1⟩ := okMv_of (hl _ (List.mem_singleton.2 rfl))
    subst q0 q1 q2 q3
    exact mup4_call true ra s0 s1 s2 k0 k1 m B w E hv
  · rename_i o n c k X t3 S t2 lb t1 la t0
    cases hg
    obtain ⟨q0, q1, q2, q3, ra, s0, s1, s2, k0, k1⟩ := okMv_of (hl _ (List.mem_singleton.2 rfl))
    subst q0 q1 q2 q3
    exact mup4_call false ra s0 s1 s2 k0 k1 m B w E hv
  · cases hg
end Go.Proofs.YtecemjilmlagdaaDoor
