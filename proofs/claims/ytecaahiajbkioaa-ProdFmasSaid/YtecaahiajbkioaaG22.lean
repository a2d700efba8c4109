/-
  PLAIN ARITHMETIC: far below, and by modes that are none; the size told by the document.
-/
import Derived.Test.YtecaahiajbkioaaG18
import Derived.Test.YtecaahiajbkioaaG16
import Derived.Test.YtecaahiajbkioaaG19
import Derived.Test.YtecaahiajbkioaaG21
namespace Go.Rn
open Go.Nt Go.Wd

theorem far_pow {k : Nat} (hk : 300 ≤ k) : 4 * 2 ^ 256 ≤ 2 ^ k := by
  obtain ⟨j, rfl⟩ : ∃ j, k = 256 + (2 + j) := ⟨k - 258, by omega⟩
  have hj : 0 < 2 ^ j := Nat.pow_pos (by omega)
  rw [Nat.pow_add, Nat.pow_add, Nat.mul_comm 4]
  refine Nat.mul_le_mul_left _ ?_
  show 4 ≤ 4 * 2 ^ j
  omega
theorem far_rq {m : Int} {neg : Bool} {T k : Nat} (hT : T < 2 * 2 ^ 256) (hk : 300 ≤ k) : rq m neg T k = (if upR m neg false (if T = 0 then 0 else 1) = true then 1 else 0) := by
  have hp := far_pow hk
  generalize (2 : Nat) ^ 256 = P at hT hp
  have hd : T / 2 ^ k = 0 := Nat.div_eq_of_lt (by omega)
  have hm : T % 2 ^ k = T := Nat.mod_eq_of_lt (by omega)
  unfold rq
  rw [hd, hm]
  have ho : odd 0 = false := rfl
  have hr : restC T (2 ^ k) = if T = 0 then 0 else 1 := by
    unfold restC
    split
    · rfl
    · rw [if_pos (by omega)]
  rw [ho, hr]
  simp
theorem far_toQ {m : Int} {neg : Bool} {T : Nat} (hT : T < 2 * 2 ^ 256) {E F : Int} (hE : E ≤ -300) (hF : F ≤ -300) : toQ m neg T E 0 = toQ m neg T F 0 := by
  unfold toQ
  rw [if_neg (by omega), if_neg (by omega), far_rq hT (by omega), far_rq hT (by omega)]
theorem far_toL {T : Nat} (hT : T < 2 * 2 ^ 256) {E F : Int} (hE : E ≤ -300) (hF : F ≤ -300) : toL T E 0 = toL T F 0 := by
  have key : ∀ k, 300 ≤ k → T % 2 ^ k = T := fun k hk => by
    have hp := far_pow hk
    exact Nat.mod_eq_of_lt (by omega)
  unfold toL
  rw [if_neg (by omega), if_neg (by omega), key _ (by omega), key _ (by omega)]
/-- a mode, or Even -/
def mN (m : Int) : Int := if m < 0 then 0 else if m > 4 then 0 else m
theorem upR_mN (m : Int) (neg o : Bool) (c : Int) : upR (mN m) neg o c = upR m neg o c := by
  unfold mN
  by_cases h0 : m < 0
  · rw [if_pos h0]
    unfold upR
    rw [if_neg (show ¬ m = 2 by omega), if_neg (show ¬ m = 3 by omega), if_neg (show ¬ m = 4 by omega), if_neg (show ¬ m = 1 by omega)]
    simp
  · rw [if_neg h0]
    by_cases h4 : m > 4
    · rw [if_pos h4]
      unfold upR
      rw [if_neg (show ¬ m = 2 by omega), if_neg (show ¬ m = 3 by omega), if_neg (show ¬ m = 4 by omega), if_neg (show ¬ m = 1 by omega)]
      simp
    · rw [if_neg h4]
theorem toQ_mN (m : Int) (neg : Bool) (T : Nat) (E e : Int) : toQ (mN m) neg T E e = toQ m neg T E e := by
  unfold toQ rq
  simp only [upR_mN]
/-- the document's size -/
def rT (x : W4) (b : Bool) : Nat := match b with | true => 2 * x.nat + 1 | false => x.nat
def jB (b : Bool) : Int := match b with | true => 1 | false => 0
theorem rT_lt {x : W4} (hx : x.ok) (b : Bool) : rT x b < 2 * 2 ^ 256 := by
  have := W4.nat_lt hx
  unfold rT
  cases b <;> simp only <;> omega
theorem tw_toQ (m : Int) (neg : Bool) (x : W4) (b : Bool) (E e : Int) : toQ m neg (tw x b) (E - 1) e = toQ m neg (rT x b) (E - jB b) e := by
  cases b with
  | true => rfl
  | false =>
    have h := toQ_scale m neg x.nat 1 E e
    have e1 : tw x false = x.nat * 2 ^ 1 := by unfold tw; simp [Nat.mul_comm]
    rw [e1]
    simp only [rT, jB, Int.sub_zero]
    exact h
theorem tw_toL (x : W4) (b : Bool) (E e : Int) : toL (tw x b) (E - 1) e = toL (rT x b) (E - jB b) e := by
  cases b with
  | true => rfl
  | false =>
    have h := toL_scale x.nat 1 E e
    have e1 : tw x false = x.nat * 2 ^ 1 := by unfold tw; simp [Nat.mul_comm]
    rw [e1]
    simp only [rT, jB, Int.sub_zero]
    exact h
/-- a whole number of so few bits -/
theorem whole_le {m : Int} {neg : Bool} {x : W4} {b : Bool} (hx : x.ok) {E : Int} (hE : E ≤ 0) : toQ m neg (tw x b) (E - 1) 0 ≤ 2 ^ 256 := by
  have h1 := W4.nat_lt hx
  obtain ⟨d, hd⟩ : ∃ d : Nat, (0 - (E - 1)).toNat = d + 1 := ⟨(0 - (E - 1)).toNat - 1, by omega⟩
  unfold toQ
  rw [if_neg (by omega), hd]
  have h2 := (rq_bd m neg (tw x b) (d + 1)).2
  rw [tw_div] at h2
  have h3 : x.nat / 2 ^ d ≤ x.nat := Nat.div_le_self _ _
  omega
end Go.Rn

/-
  PLAIN ARITHMETIC: the document's way to a number's pattern is the one told here.
-/
namespace Go.Rn
open Go.Nt Go.Wd

theorem rnP_mN (m : Int) (neg : Bool) (T : Nat) (E : Int) : rnP (mN m) neg T E = rnP m neg T E := by
  unfold rnP p0 bey
  simp only [toQ_mN, upR_mN]
theorem rnF_mN (m : Int) (neg : Bool) (T : Nat) (E : Int) : rnF (mN m) neg T E = rnF m neg T E := by
  unfold rnF p0 tiny
  simp only [toQ_mN]
/-- beyond all patterns -/
theorem p0_big {m : Int} {neg : Bool} {T : Nat} {E : Int} (hT : T ≠ 0) (h : 1024 ≤ lgN T E) : 9218868437227405312 ≤ p0 m neg T E := by
  have hq := low_lo (m := m) (neg := neg) (T := T) (E := E) hT (by omega)
  have hl : lowE T E = lgN T E - 52 := by unfold lowE; rw [if_neg (by omega)]
  unfold p0
  rw [hl] at hq ⊢
  omega
theorem big_eq {m : Int} {neg : Bool} {T : Nat} {E : Int} (hT : T ≠ 0) (h : 1024 ≤ lgN T E) : rnP m neg T E = bey m neg ∧ rnF m neg T E = 20 := by
  have := p0_big (m := m) (neg := neg) hT h
  unfold rnP rnF
  rw [if_neg hT, if_neg hT, if_pos this, if_pos this]
  exact ⟨rfl, rfl⟩
/-- far below all patterns -/
theorem low_eq {m : Int} {neg : Bool} {T : Nat} {E : Int} (hT : T ≠ 0) (h : lgN T E ≤ -1100) : rnP m neg T E = (if upR m neg false 1 = true then 1 else 0) ∧ rnF m neg T E = 24 := by
  have hb := (bitLen_spec T).1
  have hl : lowE T E = -1074 := by unfold lowE; rw [if_pos (by omega)]
  have hE : ¬ (-1074 : Int) ≤ E := by unfold lgN at h; have := len_pos hT; omega
  have hk : bitLen T + 2 ≤ (-1074 - E).toNat := by unfold lgN at h; omega
  have hp := Nat.pow_le_pow_right (show 0 < 2 by omega) hk
  have e4 : 2 ^ (bitLen T + 2) = 4 * 2 ^ bitLen T := by rw [Nat.pow_add, Nat.mul_comm]
  have hlt : 2 * T < 2 ^ (-1074 - E).toNat := by omega
  have hd : T / 2 ^ (-1074 - E).toNat = 0 := Nat.div_eq_of_lt (by omega)
  have hm : T % 2 ^ (-1074 - E).toNat = T := Nat.mod_eq_of_lt (by omega)
  have hr : restC T (2 ^ (-1074 - E).toNat) = 1 := by unfold restC; rw [if_neg hT, if_pos hlt]
  have hq : toQ m neg T E (-1074) = if upR m neg false 1 = true then 1 else 0 := by
    unfold toQ rq
    rw [if_neg hE, hd, hm, hr]
    have ho : odd 0 = false := rfl
    rw [ho]
    simp
  have hL : toL T E (-1074) = true := by unfold toL; rw [if_neg hE, hm]; exact decide_eq_true hT
  have hti : tiny m neg T E = true := by unfold tiny; rw [if_neg (by omega)]; exact decide_eq_true (by omega)
  have hp0 : p0 m neg T E = if upR m neg false 1 = true then 1 else 0 := by
    unfold p0
    rw [hl, hq]
    split <;> rfl
  unfold rnP rnF
  rw [if_neg hT, if_neg hT, hp0, hl, hL, hti]
  split <;> simp
/-- the program's way and the document's, from any exponent -/
theorem same_round {m : Int} {neg : Bool} {x : W4} (hx : x.ok) (b : Bool) {C D : Int} (h : (C = D) ∨ (1700 ≤ C ∧ 1700 ≤ D) ∨ (C ≤ -1700 ∧ D ≤ -1700)) : rnP m neg (tw x b) (C - 1) = rnP m neg (rT x b) (D - jB b) ∧ rnF m neg (tw x b) (C - 1) = rnF m neg (rT x b) (D - jB b) := by
  have hj : 0 ≤ jB b ∧ jB b ≤ 1 := by cases b <;> simp [jB]
  have e : rnP m neg (tw x b) (C - 1) = rnP m neg (rT x b) (C - jB b) ∧ rnF m neg (tw x b) (C - 1) = rnF m neg (rT x b) (C - jB b) := by
    cases b with
    | true => exact ⟨rfl, rfl⟩
    | false =>
      have e1 : tw x false = x.nat * 2 ^ 1 := by unfold tw; simp [Nat.mul_comm]
      rw [e1]
      simp only [rT, jB, Int.sub_zero]
      exact ⟨rnP_scale m neg x.nat 1 C, rnF_scale m neg x.nat 1 C⟩
  rw [e.1, e.2]
  rcases h with h | h | h
  · rw [h]; exact ⟨rfl, rfl⟩
  · by_cases hT : rT x b = 0
    · rw [hT]; unfold rnP rnF; simp
    · have hl := len_pos hT
      obtain ⟨a1, a2⟩ := big_eq (m := m) (neg := neg) (E := C - jB b) hT (by unfold lgN; omega)
      obtain ⟨b1, b2⟩ := big_eq (m := m) (neg := neg) (E := D - jB b) hT (by unfold lgN; omega)
      rw [a1, a2, b1, b2]; exact ⟨rfl, rfl⟩
  · by_cases hT : rT x b = 0
    · rw [hT]; unfold rnP rnF; simp
    · have hlt := rT_lt hx b
      obtain ⟨k, hk⟩ : ∃ k : Nat, k = 300 := ⟨300, rfl⟩
      have hfp := far_pow (show 300 ≤ k by omega)
      have hl : bitLen (rT x b) ≤ k := len_le (by omega)
      obtain ⟨a1, a2⟩ := low_eq (m := m) (neg := neg) (E := C - jB b) hT (by unfold lgN; omega)
      obtain ⟨b1, b2⟩ := low_eq (m := m) (neg := neg) (E := D - jB b) hT (by unfold lgN; omega)
      rw [a1, a2, b1, b2]; exact ⟨rfl, rfl⟩

/-! ### the document's flags and pattern -/
theorem len53 {q : Nat} (h0 : 4503599627370496 ≤ q) (h1 : q ≤ 9007199254740992) : bitLen q = if q = 9007199254740992 then 54 else 53 := by
  split
  · rename_i h; rw [h]; exact len_uniq (k := 53) (by decide) (by decide)
  · exact len_uniq (k := 52) h0 (show q < 2 ^ 53 by have : (2 : Nat) ^ 53 = 9007199254740992 := rfl; omega)
/-- Underflow -/
theorem tiny_doc {m : Int} {neg : Bool} {T : Nat} {E : Int} (hT : T ≠ 0) : decide ((bitLen (toQ m neg T E (lgN T E - 52)) : Int) + (lgN T E + 1) - 53 ≤ -1022) = tiny m neg T E := by
  have h0 : 4503599627370496 ≤ toQ m neg T E (lgN T E - 52) := toQ_ge (n := 52) hT (by unfold lgN; omega)
  have h1 : toQ m neg T E (lgN T E - 52) ≤ 9007199254740992 := toQ_le (n := 53) (by unfold lgN; omega)
  have hl := len53 h0 h1
  unfold tiny
  by_cases he : lgN T E = -1023
  · have e : lgN T E - 52 = -1075 := by omega
    rw [e] at h0 h1 hl ⊢
    rw [if_pos he, hl]
    congr 1
    simp only [eq_iff_iff]
    split <;> omega
  · rw [if_neg he, hl]
    congr 1
    simp only [eq_iff_iff]
    split <;> omega
/-- Overflow -/
theorem over_doc {m : Int} {neg : Bool} {T : Nat} {E : Int} (hT : T ≠ 0) : decide ((bitLen (toQ m neg T E (lowE T E)) : Int) + lowE T E > 1024) = decide (9218868437227405312 ≤ p0 m neg T E) := by
  have h1 := low_hi m neg T E
  have hle := lowE_ge T E
  congr 1
  simp only [eq_iff_iff]
  unfold p0
  by_cases hn : lowE T E = -1074
  · have hl : bitLen (toQ m neg T E (lowE T E)) ≤ 54 := by
      have : toQ m neg T E (lowE T E) < 2 ^ 54 := by have e : (2 : Nat) ^ 54 = 18014398509481984 := rfl; omega
      exact len_le this
    omega
  · have h0 := low_lo (m := m) (neg := neg) (E := E) hT (by unfold lowE at hn; split at hn <;> omega)
    have hl := len53 h0 h1
    rw [hl]
    split <;> omega
end Go.Rn

/-
  The document's Round (tillerref04): its pieces.
-/
namespace Go.Proofs.Ytecaahiajbkioaa
open Go.KRun Go.Nt Go.Wd Go.Rn
set_option maxRecDepth 100000
set_option linter.unusedVariables false

/-! ### over, signed -/
def gOv : Ans := fun vals s =>
  match vals with
  | [.bool n, .int .i64 m] => some (.int .u64 (bey m n), s, [])
  | _ => none
theorem ov2 (n : Bool) (m : Int) : Fits (reckon (tabOf Try.prog extY conN true) 300 49 [.bool n, .int .i64 m] [cmp true]) (.int .u64 9218868437227405311) [(m == 2, true)] := ⟨by kernel_rfl, by kernel_rfl, by kernel_rfl, by kernel_rfl⟩
def ovV (b : Bool) : Value := match b with | true => .int .u64 9218868437227405311 | false => .int .u64 9218868437227405312
theorem ov3 (n : Bool) (m : Int) : Fits (reckon (tabOf Try.prog extY conN true) 300 49 [.bool n, .int .i64 m] [cmp false, cmp true, cmp false]) (ovV n) (match n with | true => [(m == 3, true), (m == 2, false)] | false => [(m == 4, false), (m == 3, true), (m == 2, false)]) := by
  cases n <;> exact ⟨by kernel_rfl, by kernel_rfl, by kernel_rfl, by kernel_rfl⟩
theorem ov4 (n : Bool) (m : Int) : Fits (reckon (tabOf Try.prog extY conN true) 300 49 [.bool n, .int .i64 m] [cmp false, cmp false, cmp true]) (ovV (!n)) [(m == 4, true), (m == 3, false), (m == 2, false)] := by
  cases n <;> exact ⟨by kernel_rfl, by kernel_rfl, by kernel_rfl, by kernel_rfl⟩
theorem ov0 (n : Bool) (m : Int) : Fits (reckon (tabOf Try.prog extY conN true) 300 49 [.bool n, .int .i64 m] [cmp false, cmp false, cmp false]) (.int .u64 9218868437227405312) [(m == 4, false), (m == 3, false), (m == 2, false)] := by
  cases n <;> exact ⟨by kernel_rfl, by kernel_rfl, by kernel_rfl, by kernel_rfl⟩
theorem gOv_ok : AnsOk 49 gOv := by
  intro vals s v s' lg h hl w
  unfold gOv at h
  split at h
  · rename_i n m
    cases h
    have hv : ([.bool n, .int .i64 m].all (lt 0)) = true := rfl
    by_cases h2 : m = 2
    · have e : bey m n = 9218868437227405311 := by rw [h2]; cases n <;> rfl
      rw [e]
      exact fits_calls (tabY_ok conN_ok) (ov2 n m) (okL1 (by rw [h2]; rfl)) hv (by rfl) w
    · have b2 : (m == 2) = false := by simp [h2]
      by_cases h3 : m = 3
      · have e : Value.int .u64 (bey m n) = ovV n := by rw [h3]; cases n <;> rfl
        rw [e]
        cases n
        · exact fits_calls (tabY_ok conN_ok) (ov3 false m) (okCons (by rw [h3]; rfl) (okCons (by rw [h3]; rfl) (okL1 b2))) hv (by rfl) w
        · exact fits_calls (tabY_ok conN_ok) (ov3 true m) (okCons (by rw [h3]; rfl) (okL1 b2)) hv (by rfl) w
      · have b3 : (m == 3) = false := by simp [h3]
        by_cases h4 : m = 4
        · have e : Value.int .u64 (bey m n) = ovV (!n) := by rw [h4]; cases n <;> rfl
          rw [e]
          exact fits_calls (tabY_ok conN_ok) (ov4 n m) (okCons (by rw [h4]; rfl) (okCons b3 (okL1 b2))) hv (by cases n <;> rfl) w
        · have b4 : (m == 4) = false := by simp [h4]
          have e : bey m n = 9218868437227405312 := by
            unfold bey upR
            rw [if_neg h2, if_neg h3, if_neg h4]
            split <;> first | omega | (simp; done)
          rw [e]
          exact fits_calls (tabY_ok conN_ok) (ov0 n m) (okCons b4 (okCons b3 (okL1 b2))) hv (by rfl) w
  · cases h
def sgV (n : Bool) (p : Int) : Int := match n with | true => IntKind.u64.wrap (p + 9223372036854775808) | false => p
theorem sg_fits (n : Bool) (p : Int) : Fits (reckon (tabOf Try.prog extY conN true) 300 47 [.int .u64 p, .bool n] []) (.int .u64 (sgV n p)) [] := by
  cases n <;> exact ⟨by kernel_rfl, by kernel_rfl, by kernel_rfl, by kernel_rfl⟩
def gSg : Ans := fun vals s =>
  match vals with
  | [.int .u64 p, .bool n] => some (.int .u64 (sS n p), s, [(decide (0 ≤ p ∧ p ≤ 9218868437227405312), true)])
  | _ => none
theorem gSg_ok : AnsOk 47 gSg := by
  intro vals s v s' lg h hl w
  unfold gSg at h
  split at h
  · rename_i p n
    cases h
    have hp := of_decide_eq_true (hl _ (List.mem_singleton.2 rfl))
    have e : sS n p = sgV n p := by
      cases n
      · rfl
      · simp only [sS, sgV, if_true]
        rw [Go.Pt.wrapU' ⟨by omega, by omega⟩]
        omega
    rw [e]
    exact fits_calls (tabY_ok conN_ok) (sg_fits n p) okNl (by rfl) (by rfl) w
  · cases h
def conQ : Con := alt 49 gOv (alt 47 gSg conN)
theorem conQ_ok : ConOk conQ := alt_ok Try.func49 rfl gOv_ok (alt_ok Try.func47 rfl gSg_ok conN_ok)
def hcQ : Hc := altH 51 gTo hcW
theorem hcQ_ok : HcOk hcQ := altH_ok Try.func51 rfl gTo_ok hcW_ok

/-! ### pieces -/
theorem ro_body : Try.f27.body = some (cBody Try.f27) := by kernel_rfl
def rS1 (F : Func) : List Code := [cFst (tC F 0), cFst (tC F 1)]
def rS2 (F : Func) : List Code := [cFst (tC F 2), cFst (tC F 3), cFst (tC F 4), cFst (tC F 5)]
def rS3 (F : Func) : List Code := [cFst (tC F 6), cFst (tC F 7), cFst (tC F 8), cFst (tC F 9)]
theorem ro_body4 : Try.f27.body = some (seqs (rS1 Try.f27) (seqs (rS2 Try.f27) (seqs (rS3 Try.f27) (tC Try.f27 10)))) := by kernel_rfl
theorem ro_body2 : Try.f27.body = some (seqs (rS1 Try.f27) (tC Try.f27 2)) := by kernel_rfl
theorem ro_m1 (neg : Bool) (E M : Int) (o n c : Nat) (l : List Value) : GoesT (evL (tabH Try.prog extY conQ hcQ) 200 (rS1 Try.f27) ([vRN neg E (sl 0 o n c), .int .i64 M] ++ List.replicate 107 undef, ⟨1, [(l, tR)]⟩, [cmp true]) ⟨[], [], []⟩) 6 103 none [vRN neg E (sl 0 o n c), .int .i64 0, .pointer (some ⟨1, 0, none⟩), undef, .int .u64 0, .int .i64 0] (hX neg E o n c l) [(decide (M < 0), true)] := ⟨by kernel_rfl, by kernel_rfl, by kernel_rfl⟩
theorem ro_m2 (neg : Bool) (E M : Int) (o n c : Nat) (l : List Value) : GoesT (evL (tabH Try.prog extY conQ hcQ) 200 (rS1 Try.f27) ([vRN neg E (sl 0 o n c), .int .i64 M] ++ List.replicate 107 undef, ⟨1, [(l, tR)]⟩, [cmp false, cmp true]) ⟨[], [], []⟩) 6 103 none [vRN neg E (sl 0 o n c), .int .i64 0, .pointer (some ⟨1, 0, none⟩), undef, .int .u64 0, .int .i64 0] (hX neg E o n c l) [(decide (M > 4), true), (decide (M < 0), false)] := ⟨by kernel_rfl, by kernel_rfl, by kernel_rfl⟩
theorem ro_m3 (neg : Bool) (E M : Int) (o n c : Nat) (l : List Value) : GoesT (evL (tabH Try.prog extY conQ hcQ) 200 (rS1 Try.f27) ([vRN neg E (sl 0 o n c), .int .i64 M] ++ List.replicate 107 undef, ⟨1, [(l, tR)]⟩, [cmp false, cmp false]) ⟨[], [], []⟩) 6 103 none [vRN neg E (sl 0 o n c), .int .i64 M, .pointer (some ⟨1, 0, none⟩), undef, .int .u64 0, .int .i64 0] (hX neg E o n c l) [(decide (M > 4), false), (decide (M < 0), false)] := ⟨by kernel_rfl, by kernel_rfl, by kernel_rfl⟩
def sumI (x y : Int) : Int := IntKind.i64.wrap (x + y)
def okP (p : Int) : Bool × Bool := (decide (0 ≤ p ∧ p ≤ 9218868437227405312), true)
theorem ro_zero (neg : Bool) (E m : Int) (o n c : Nat) (l : List Value) (g : Nat → Value) : GoesT (evC (tabH Try.prog extY conQ hcQ) 200 false (tC Try.f27 2) ([vRN neg E (sl 0 o n c), .int .i64 m, .pointer (some ⟨1, 0, none⟩), undef, .int .u64 0, .int .i64 0] ++ tl 103 g, (hX neg E o n c l), [cmp true]) ⟨[], [], []⟩) 6 103 (some none) [vRN neg E (sl 0 o n c), .int .i64 m, .pointer (some ⟨1, 0, none⟩), undef, .int .u64 (sS neg 0), .int .i64 0] (hX neg E o n c l) [okP 0, ((n : Int) == 0, true)] := ⟨by kernel_rfl, by kernel_rfl, by kernel_rfl⟩
theorem ro_big (neg : Bool) (E m : Int) (o n c : Nat) (l : List Value) (g : Nat → Value) : GoesT (evC (tabH Try.prog extY conQ hcQ) 200 false (tC Try.f27 2) ([vRN neg E (sl 0 o n c), .int .i64 m, .pointer (some ⟨1, 0, none⟩), undef, .int .u64 0, .int .i64 0] ++ tl 103 g, (hX neg E o n c l), [cmp false, cmp true]) ⟨[], [], []⟩) 6 103 (some none) [vRN neg E (sl 0 o n c), .int .i64 m, .pointer (some ⟨1, 0, none⟩), undef, .int .u64 (sS neg (bey m neg)), .int .i64 20] (hX neg E o n c l) [okP (bey m neg), (decide ((sumI E ((bl (vO (hX neg E o n c l) (aX o) n) : Nat) : Int)) > 1100), true), (okLen (hX neg E o n c l) (aX o) n c, true), ((n : Int) == 0, false)] := ⟨by kernel_rfl, by kernel_rfl, by kernel_rfl⟩
theorem ro_mid (neg : Bool) (E m : Int) (o n c : Nat) (l : List Value) (g : Nat → Value) : GoesT (evL (tabH Try.prog extY conQ hcQ) 200 (rS2 Try.f27) ([vRN neg E (sl 0 o n c), .int .i64 m, .pointer (some ⟨1, 0, none⟩), undef, .int .u64 0, .int .i64 0] ++ tl 103 g, (hX neg E o n c l), [cmp false, cmp false, cmp false]) ⟨[], [], []⟩) 7 102 none [vRN neg E (sl 0 o n c), .int .i64 m, .pointer (some ⟨1, 0, none⟩), undef, .int .u64 0, .int .i64 0, .int .i64 (sumI E ((bl (vO (hX neg E o n c l) (aX o) n) : Nat) : Int))] (hX neg E o n c l) [(decide ((sumI E ((bl (vO (hX neg E o n c l) (aX o) n) : Nat) : Int)) < -1200), false), (decide ((sumI E ((bl (vO (hX neg E o n c l) (aX o) n) : Nat) : Int)) > 1100), false), (okLen (hX neg E o n c l) (aX o) n c, true), ((n : Int) == 0, false)] := ⟨by kernel_rfl, by kernel_rfl, by kernel_rfl⟩
def hLo (neg : Bool) (l : List Value) : Hp := ⟨3, [(wU (d16 1), tU), bOf neg (-1300) (sOf 2 1), (l, tR)]⟩
theorem ro_low (neg : Bool) (E m : Int) (o n c : Nat) (l : List Value) (g : Nat → Value) : GoesT (evL (tabH Try.prog extY conQ hcQ) 200 (rS2 Try.f27) ([vRN neg E (sl 0 o n c), .int .i64 m, .pointer (some ⟨1, 0, none⟩), undef, .int .u64 0, .int .i64 0] ++ tl 103 g, (hX neg E o n c l), [cmp false, cmp false, cmp true]) ⟨[], [], []⟩) 7 102 none [vRN neg E (sl 0 o n c), .int .i64 m, .pointer (some ⟨1, 0, none⟩), undef, .int .u64 0, .int .i64 0, .int .i64 (-1299)] (hLo neg l) [okOne1, okOne1, (decide ((sumI E ((bl (vO (hX neg E o n c l) (aX o) n) : Nat) : Int)) < -1200), true), (decide ((sumI E ((bl (vO (hX neg E o n c l) (aX o) n) : Nat) : Int)) > 1100), false), (okLen (hX neg E o n c l) (aX o) n c, true), ((n : Int) == 0, false)] := ⟨by kernel_rfl, by kernel_rfl, by kernel_rfl⟩
end Go.Proofs.Ytecaahiajbkioaa
