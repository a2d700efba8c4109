/-
  rnd.Round, as a call in every world.
-/
import Derived.Test.YtbcpnpchioncbaaG21
import Derived.Test.YtbcpnpchioncbaaG18
import Derived.Test.YtbcpnpchioncbaaG16
namespace Go.Proofs.Ytbcpnpchioncbaa
open Go.KRun Go.Wd Go.Pt Go.Rn
set_option maxRecDepth 100000

def lgR (ex : Int) (x : W4) : Int := lgW (clp ex) x
def e0 (ex : Int) (x : W4) : Int := if -1074 > m52 (lgR ex x) then -1074 else m52 (lgR ex x)
def qR (m : Int) (n : Bool) (x : W4) (b : Bool) (ex : Int) : Nat := toQ m n (tw x b) (clp ex - 1) (e0 ex x)
def oR (x : W4) (b : Bool) (ex : Int) : Bool := toL (tw x b) (clp ex - 1) (e0 ex x)
def pR (m : Int) (n : Bool) (x : W4) (b : Bool) (ex : Int) : Int := IntKind.u64.wrap (IntKind.u64.wrap (IntKind.u64.wrap (IntKind.i64.wrap (e0 ex x - -1074)) * 2 ^ min (Int.toNat 52) 64) + (ofN (qR m n x b ex)).a)
def sgR (n : Bool) (p : Int) : Int := match n with | true => bXor p 9223372036854775808 | false => p
def lTm (m : Int) (n : Bool) (x : W4) (b : Bool) (ex : Int) (o d : Bool) : Log := [(oR x b ex, o), (decide (qR m n x b ex < 2 ^ 256), true), (okTm x (clp ex) (e0 ex x), true), (decide x.ok, true), (eqW x ⟨0, 0, 0, 0⟩, d)]
def lBig (m : Int) (n : Bool) (x : W4) (b : Bool) (ex : Int) (d : Bool) : Bool × Bool := (decide (pR m n x b ex ≥ 9218868437227405312), d)
def l52 : Bool × Bool := (decide ((52 : Int) < 0), false)
def rdT (p f : Int) : Value := .tuple #[.int .u64 p, .int .u8 f]
theorem rd_zero (n : Bool) (x : W4) (ex m : Int) : Fits (reckon (tabOf Try.prog extY conTi true) 300 38 [vN n ex x false, .int .i64 m] [sam true]) (rdT (sgR n 0) 0) [(eqW x ⟨0, 0, 0, 0⟩, true)] := by
  cases n <;> exact ⟨by kernel_rfl, by kernel_rfl, by kernel_rfl, by kernel_rfl⟩
theorem rd_big (n b o : Bool) (x : W4) (ex m : Int) : Fits (reckon (tabOf Try.prog extY conTi true) 300 38 [vN n ex x b, .int .i64 m] [sam false, cmp true, cmp o, cmp true]) (rdT (sgR n (bey m n)) 20) (lBig m n x b ex true :: l52 :: lTm m n x b ex o false) := by
  cases n <;> cases o <;> exact ⟨by kernel_rfl, by kernel_rfl, by kernel_rfl, by kernel_rfl⟩
theorem rd_big' (n o : Bool) (x : W4) (ex m : Int) : Fits (reckon (tabOf Try.prog extY conTi true) 300 38 [vN n ex x true, .int .i64 m] [sam true, cmp true, cmp o, cmp true]) (rdT (sgR n (bey m n)) 20) (lBig m n x true ex true :: l52 :: lTm m n x true ex o true) := by
  cases n <;> cases o <;> exact ⟨by kernel_rfl, by kernel_rfl, by kernel_rfl, by kernel_rfl⟩
theorem rd_just (n b : Bool) (x : W4) (ex m : Int) : Fits (reckon (tabOf Try.prog extY conTi true) 300 38 [vN n ex x b, .int .i64 m] [sam false, cmp true, cmp false, cmp false]) (rdT (sgR n (pR m n x b ex)) 0) (lBig m n x b ex false :: l52 :: lTm m n x b ex false false) := by
  cases n <;> exact ⟨by kernel_rfl, by kernel_rfl, by kernel_rfl, by kernel_rfl⟩
theorem rd_just' (n : Bool) (x : W4) (ex m : Int) : Fits (reckon (tabOf Try.prog extY conTi true) 300 38 [vN n ex x true, .int .i64 m] [sam true, cmp true, cmp false, cmp false]) (rdT (sgR n (pR m n x true ex)) 0) (lBig m n x true ex false :: l52 :: lTm m n x true ex false true) := by
  cases n <;> exact ⟨by kernel_rfl, by kernel_rfl, by kernel_rfl, by kernel_rfl⟩
def fgT (t : Bool) : Int := match t with | true => 24 | false => 16
def lTn (m : Int) (n : Bool) (x : W4) (b : Bool) (ex : Int) (t : Bool) (l : Log) : Log := (tnK m n (tw x b) (clp ex - 1) (lgR ex x), t) :: (decide (lgR ex x = -1023 → toQ m n (tw x b) (clp ex - 1) (-1075) < 2 ^ 256), true) :: (okTm x (clp ex) 0, true) :: l
theorem rd_near (n b t : Bool) (x : W4) (ex m : Int) : Fits (reckon (tabOf Try.prog extY conTi true) 300 38 [vN n ex x b, .int .i64 m] [sam false, cmp true, cmp true, cmp false, cmp t]) (rdT (sgR n (pR m n x b ex)) (fgT t)) (lTn m n x b ex t (lBig m n x b ex false :: l52 :: lTm m n x b ex true false)) := by
  cases n <;> cases t <;> exact ⟨by kernel_rfl, by kernel_rfl, by kernel_rfl, by kernel_rfl⟩
theorem rd_near' (n t : Bool) (x : W4) (ex m : Int) : Fits (reckon (tabOf Try.prog extY conTi true) 300 38 [vN n ex x true, .int .i64 m] [sam true, cmp true, cmp true, cmp false, cmp t]) (rdT (sgR n (pR m n x true ex)) (fgT t)) (lTn m n x true ex t (lBig m n x true ex false :: l52 :: lTm m n x true ex true true)) := by
  cases n <;> cases t <;> exact ⟨by kernel_rfl, by kernel_rfl, by kernel_rfl, by kernel_rfl⟩

/-! ### its numbers -/
theorem tw_len {x : W4} {b : Bool} (h : tw x b ≠ 0) : bitLen (tw x b) = bitLen x.nat + 1 := by
  have hd : tw x b / 2 ^ 1 = x.nat := by
    have := tw_div x b 0
    simpa using this
  by_cases h0 : x.nat = 0
  · have : tw x b = 1 := by
      have e : tw x b / 2 = x.nat := by simpa using hd
      omega
    rw [this, h0]
    rfl
  · rw [bitLen_shift (tw x b) 1 (by rw [hd]; exact h0), hd]
    omega
theorem len256 {x : W4} (hx : x.ok) : bitLen x.nat ≤ 256 := len_le (W4.nat_lt hx)
theorem lgR_eq {x : W4} {b : Bool} {ex : Int} (hx : x.ok) (h : tw x b ≠ 0) : lgR ex x = lgN (tw x b) (clp ex - 1) := by
  have h1 := clp_bd ex
  have h2 := len256 hx
  unfold lgR lgW lgN
  rw [lenI_nat, tw_len h, wrapI' (n := clp ex + ((bitLen x.nat : Nat) : Int)) ⟨by omega, by omega⟩, wrapI' ⟨by omega, by omega⟩]
  omega
theorem lgN_bd {x : W4} {b : Bool} {ex : Int} (hx : x.ok) (h : tw x b ≠ 0) : -2002 ≤ lgN (tw x b) (clp ex - 1) ∧ lgN (tw x b) (clp ex - 1) ≤ 2300 := by
  have h1 := clp_bd ex
  have h2 := len256 hx
  unfold lgN
  rw [tw_len h]
  omega
theorem e0_eq {x : W4} {b : Bool} {ex : Int} (hx : x.ok) (h : tw x b ≠ 0) : e0 ex x = lowE (tw x b) (clp ex - 1) := by
  have hb := lgN_bd (ex := ex) hx h
  unfold e0 m52 lowE
  rw [lgR_eq hx h, wrapI' ⟨by omega, by omega⟩]
  split <;> split <;> omega
theorem lowE_bd {x : W4} {b : Bool} {ex : Int} (hx : x.ok) (h : tw x b ≠ 0) : -1074 ≤ lowE (tw x b) (clp ex - 1) ∧ lowE (tw x b) (clp ex - 1) ≤ 2300 := by
  have hb := lgN_bd (ex := ex) hx h
  unfold lowE
  split <;> omega
theorem ofN_a {q : Nat} (h : q < 18446744073709551616) : (ofN q).a = (q : Int) := by unfold ofN W4.of; dsimp only; omega
theorem pR_eq {m : Int} {n : Bool} {x : W4} {b : Bool} {ex : Int} (hx : x.ok) (h : tw x b ≠ 0) : pR m n x b ex = p0 m n (tw x b) (clp ex - 1) ∧ p0 m n (tw x b) (clp ex - 1) < 18446744073709551616 := by
  have hb := lowE_bd (ex := ex) hx h
  have hq := low_hi m n (tw x b) (clp ex - 1)
  have e1 : ((2 : Int) ^ min (Int.toNat 52) 64) = 4503599627370496 := by rfl
  unfold pR qR p0
  rw [e0_eq hx h, ofN_a (by omega), e1, wrapI' ⟨by omega, by omega⟩, wrapU' (n := lowE (tw x b) (clp ex - 1) - -1074) ⟨by omega, by omega⟩, wrapU' (n := (lowE (tw x b) (clp ex - 1) - -1074) * 4503599627370496) ⟨by omega, by omega⟩, wrapU' ⟨by omega, by omega⟩]
  omega
def sS (n : Bool) (p : Int) : Int := if n = true then 9223372036854775808 + p else p
theorem sgR_eq {n : Bool} {p : Int} (h0 : 0 ≤ p) (h1 : p ≤ 9218868437227405312) : sgR n p = sS n p := by
  cases n
  · rfl
  · simp only [sgR, sS, if_true]
    rw [bXor_sign ⟨by omega, by omega⟩]
    omega
theorem tnK_eq (m : Int) (n : Bool) (T : Nat) (E : Int) : tnK m n T E (lgN T E) = tiny m n T E := rfl
/-- what Round answers -/
def rdV (m : Int) (n : Bool) (T : Nat) (E : Int) : Value := rdT (sS n (rnP m n T E)) (rnF m n T E)
theorem round_calls (n b : Bool) (x : W4) (ex m : Int) (hx : x.ok) (w : World) : Calls Try.prog 38 #[vN n ex x b, .int .i64 m] w fun r w' => r = .returned (rdV m n (tw x b) (clp ex - 1)) ∧ Tidy w w' := by
  have hv : ([vN n ex x b, .int .i64 m].all (lt 0)) = true := rfl
  unfold rdV
  by_cases hz : tw x b = 0
  · have h1 := (tw_zero hx).1 hz
    rw [Bool.and_eq_true] at h1
    have hb : b = false := by simpa using h1.2
    subst hb
    have h := fits_calls (tabY_ok conTi_ok) (rd_zero n x ex m) (okL1 h1.1) hv (by rfl) w
    rw [sgR_eq (by omega) (by omega)] at h
    unfold rnP rnF
    rw [if_pos hz, if_pos hz]
    exact h
  · obtain ⟨ep, hp⟩ := pR_eq (m := m) (n := n) (ex := ex) hx hz
    have hbd := clp_bd ex
    have hel := lowE_bd (ex := ex) hx hz
    have hq := low_hi m n (tw x b) (clp ex - 1)
    have ee := e0_eq (ex := ex) hx hz
    have el := lgR_eq (ex := ex) hx hz
    have hp0 := p0_nonneg m n (tw x b) (clp ex - 1)
    have e256 : (2 : Nat) ^ 256 = 115792089237316195423570985008687907853269984665640564039457584007913129639936 := rfl
    have kq : decide (qR m n x b ex < 2 ^ 256) = true := decide_eq_true (by unfold qR; rw [ee]; omega)
    have kt : okTm x (clp ex) (e0 ex x) = true := decide_eq_true ⟨hx, by omega, by omega, by omega, by omega⟩
    have kt0 : okTm x (clp ex) 0 = true := decide_eq_true ⟨hx, by omega, by omega, by omega, by omega⟩
    have kx : decide x.ok = true := decide_eq_true hx
    have ko : oR x b ex = toL (tw x b) (clp ex - 1) (lowE (tw x b) (clp ex - 1)) := by unfold oR; rw [ee]
    have kn : decide (lgR ex x = -1023 → toQ m n (tw x b) (clp ex - 1) (-1075) < 2 ^ 256) = true := decide_eq_true fun hl => by
      rw [el] at hl
      have : toQ m n (tw x b) (clp ex - 1) (-1075) ≤ 2 ^ 53 := toQ_le (by unfold lgN at hl; omega)
      have e53 : (2 : Nat) ^ 53 = 9007199254740992 := rfl
      omega
    have key : ∃ d, eqW x ⟨0, 0, 0, 0⟩ = d ∧ (d = false ∨ (d = true ∧ b = true)) := by
      refine ⟨_, rfl, ?_⟩
      cases he : eqW x ⟨0, 0, 0, 0⟩
      · exact .inl rfl
      · right
        refine ⟨rfl, ?_⟩
        cases hb : b
        · exact absurd ((tw_zero hx).2 (by rw [he, hb]; rfl)) hz
        · rfl
    obtain ⟨d, hd, hdb⟩ := key
    have lt5 : ∀ o, oR x b ex = o → okLog (lTm m n x b ex o d) := fun o ho => okCons ho (okCons kq (okCons kt (okCons kx (okL1 hd))))
    unfold rnP rnF
    rw [if_neg hz, if_neg hz]
    by_cases hbig : 9218868437227405312 ≤ p0 m n (tw x b) (clp ex - 1)
    · rw [if_pos hbig, if_pos hbig]
      have hb2 := bey_or m n
      have hs : sgR n (bey m n) = sS n (bey m n) := sgR_eq (by omega) (by omega)
      rw [← hs]
      have lB : decide (pR m n x b ex ≥ 9218868437227405312) = true := decide_eq_true (by rw [ep]; exact hbig)
      rcases hdb with rfl | ⟨rfl, rfl⟩
      · exact fits_calls (tabY_ok conTi_ok) (rd_big n b (oR x b ex) x ex m) (okCons lB (okCons rfl (lt5 _ rfl))) hv (by rfl) w
      · exact fits_calls (tabY_ok conTi_ok) (rd_big' n (oR x true ex) x ex m) (okCons lB (okCons rfl (lt5 _ rfl))) hv (by rfl) w
    · rw [if_neg hbig, if_neg hbig]
      have hs : sgR n (pR m n x b ex) = sS n (p0 m n (tw x b) (clp ex - 1)) := by rw [ep]; exact sgR_eq hp0 (by omega)
      rw [← hs]
      have lB : decide (pR m n x b ex ≥ 9218868437227405312) = false := decide_eq_false (by rw [ep]; exact hbig)
      by_cases hl : toL (tw x b) (clp ex - 1) (lowE (tw x b) (clp ex - 1)) = true
      · rw [if_pos hl]
        have ht : tnK m n (tw x b) (clp ex - 1) (lgR ex x) = tiny m n (tw x b) (clp ex - 1) := by rw [el, tnK_eq]
        have ef : (if tiny m n (tw x b) (clp ex - 1) = true then (24 : Int) else 16) = fgT (tiny m n (tw x b) (clp ex - 1)) := by
          cases tiny m n (tw x b) (clp ex - 1) <;> rfl
        rw [ef]
        rcases hdb with rfl | ⟨rfl, rfl⟩
        · exact fits_calls (tabY_ok conTi_ok) (rd_near n b (tiny m n (tw x b) (clp ex - 1)) x ex m) (okCons ht (okCons kn (okCons kt0 (okCons lB (okCons rfl (lt5 _ (ko.trans hl))))))) hv (by rfl) w
        · exact fits_calls (tabY_ok conTi_ok) (rd_near' n (tiny m n (tw x true) (clp ex - 1)) x ex m) (okCons ht (okCons kn (okCons kt0 (okCons lB (okCons rfl (lt5 _ (ko.trans hl))))))) hv (by rfl) w
      · rw [if_neg hl]
        have hl' := ko.trans (by simpa using hl)
        rcases hdb with rfl | ⟨rfl, rfl⟩
        · exact fits_calls (tabY_ok conTi_ok) (rd_just n b x ex m) (okCons lB (okCons rfl (lt5 _ hl'))) hv (by rfl) w
        · exact fits_calls (tabY_ok conTi_ok) (rd_just' n x ex m) (okCons lB (okCons rfl (lt5 _ hl'))) hv (by rfl) w
def gRd : Ans := fun vals s =>
  match vals with
  | [v, .int .i64 m] =>
    match n7 v with
    | some (n, ex, x, b) => some (rdV m n (tw x b) (clp ex - 1), s, [(decide x.ok, true)])
    | none => none
  | _ => none
theorem gRd_ok : AnsOk 38 gRd := by
  intro vals s v s' lg h hl w
  unfold gRd at h
  split at h
  · split at h
    · rename_i n ex x b hn
      cases h
      rw [n7_spec hn]
      exact round_calls n b x ex _ (of_decide_eq_true (hl _ (List.mem_singleton.2 rfl))) w
    · cases h
  · cases h
/-! ### sure -/
def conR0 : Con := alt 38 gRd conN
theorem conR0_ok : ConOk conR0 := alt_ok Try.func38 rfl gRd_ok conN_ok
end Go.Proofs.Ytbcpnpchioncbaa

/-
  PLAIN ARITHMETIC: far below, and by modes that are none; the size told by the document.
-/
namespace Go.Rn
open Go.Nt Go.Wd

theorem far_pow {k : Nat} (hk : 300 ≤ k) : 4 * 2 ^ 256 ≤ 2 ^ k := by
  obtain ⟨j, rfl⟩ : ∃ j, k = 256 + (2 + j) := ⟨k - 258, by omega⟩
  have hj : 0 < 2 ^ j := Nat.pow_pos (by omega)
  rw [Nat.pow_add, Nat.pow_add, Nat.mul_comm 4]
  refine Nat.mul_le_mul_left _ ?_
  show 4 ≤ 4 * 2 ^ j
  omega
theorem far_rq {m : Int} {neg : Bool} {T k : Nat} (hT : T < 2 * 2 ^ 256) (hk : 300 ≤ k) : rq m neg T k = (if upR m neg false (if T = 0 then 0 else 1) = true then 1 else 0) := by
  have hp := far_pow hk
  generalize (2 : Nat) ^ 256 = P at hT hp
  have hd : T / 2 ^ k = 0 := Nat.div_eq_of_lt (by omega)
  have hm : T % 2 ^ k = T := Nat.mod_eq_of_lt (by omega)
  unfold rq
  rw [hd, hm]
  have ho : odd 0 = false := rfl
  have hr : restC T (2 ^ k) = if T = 0 then 0 else 1 := by
    unfold restC
    split
    · rfl
    · rw [if_pos (by omega)]
  rw [ho, hr]
  simp
theorem far_toQ {m : Int} {neg : Bool} {T : Nat} (hT : T < 2 * 2 ^ 256) {E F : Int} (hE : E ≤ -300) (hF : F ≤ -300) : toQ m neg T E 0 = toQ m neg T F 0 := by
  unfold toQ
  rw [if_neg (by omega), if_neg (by omega), far_rq hT (by omega), far_rq hT (by omega)]
theorem far_toL {T : Nat} (hT : T < 2 * 2 ^ 256) {E F : Int} (hE : E ≤ -300) (hF : F ≤ -300) : toL T E 0 = toL T F 0 := by
  have key : ∀ k, 300 ≤ k → T % 2 ^ k = T := fun k hk => by
    have hp := far_pow hk
    exact Nat.mod_eq_of_lt (by omega)
  unfold toL
  rw [if_neg (by omega), if_neg (by omega), key _ (by omega), key _ (by omega)]
/-- a mode, or Even -/
def mN (m : Int) : Int := if m < 0 then 0 else if m > 4 then 0 else m
theorem upR_mN (m : Int) (neg o : Bool) (c : Int) : upR (mN m) neg o c = upR m neg o c := by
  unfold mN
  by_cases h0 : m < 0
  · rw [if_pos h0]
    unfold upR
    rw [if_neg (show ¬ m = 2 by omega), if_neg (show ¬ m = 3 by omega), if_neg (show ¬ m = 4 by omega), if_neg (show ¬ m = 1 by omega)]
    simp
  · rw [if_neg h0]
    by_cases h4 : m > 4
    · rw [if_pos h4]
      unfold upR
      rw [if_neg (show ¬ m = 2 by omega), if_neg (show ¬ m = 3 by omega), if_neg (show ¬ m = 4 by omega), if_neg (show ¬ m = 1 by omega)]
      simp
    · rw [if_neg h4]
theorem toQ_mN (m : Int) (neg : Bool) (T : Nat) (E e : Int) : toQ (mN m) neg T E e = toQ m neg T E e := by
  unfold toQ rq
  simp only [upR_mN]
/-- the document's size -/
def rT (x : W4) (b : Bool) : Nat := match b with | true => 2 * x.nat + 1 | false => x.nat
def jB (b : Bool) : Int := match b with | true => 1 | false => 0
theorem rT_lt {x : W4} (hx : x.ok) (b : Bool) : rT x b < 2 * 2 ^ 256 := by
  have := W4.nat_lt hx
  unfold rT
  cases b <;> simp only <;> omega
theorem tw_toQ (m : Int) (neg : Bool) (x : W4) (b : Bool) (E e : Int) : toQ m neg (tw x b) (E - 1) e = toQ m neg (rT x b) (E - jB b) e := by
  cases b with
  | true => rfl
  | false =>
    have h := toQ_scale m neg x.nat 1 E e
    have e1 : tw x false = x.nat * 2 ^ 1 := by unfold tw; simp [Nat.mul_comm]
    rw [e1]
    simp only [rT, jB, Int.sub_zero]
    exact h
theorem tw_toL (x : W4) (b : Bool) (E e : Int) : toL (tw x b) (E - 1) e = toL (rT x b) (E - jB b) e := by
  cases b with
  | true => rfl
  | false =>
    have h := toL_scale x.nat 1 E e
    have e1 : tw x false = x.nat * 2 ^ 1 := by unfold tw; simp [Nat.mul_comm]
    rw [e1]
    simp only [rT, jB, Int.sub_zero]
    exact h
/-- a whole number of so few bits -/
theorem whole_le {m : Int} {neg : Bool} {x : W4} {b : Bool} (hx : x.ok) {E : Int} (hE : E ≤ 0) : toQ m neg (tw x b) (E - 1) 0 ≤ 2 ^ 256 := by
  have h1 := W4.nat_lt hx
  obtain ⟨d, hd⟩ : ∃ d : Nat, (0 - (E - 1)).toNat = d + 1 := ⟨(0 - (E - 1)).toNat - 1, by omega⟩
  unfold toQ
  rw [if_neg (by omega), hd]
  have h2 := (rq_bd m neg (tw x b) (d + 1)).2
  rw [tw_div] at h2
  have h3 : x.nat / 2 ^ d ≤ x.nat := Nat.div_le_self _ _
  omega
end Go.Rn

/-
  PLAIN ARITHMETIC: the document's way to a number's pattern is the one told here.
-/
namespace Go.Rn
open Go.Nt Go.Wd

theorem rnP_mN (m : Int) (neg : Bool) (T : Nat) (E : Int) : rnP (mN m) neg T E = rnP m neg T E := by
  unfold rnP p0 bey
  simp only [toQ_mN, upR_mN]
theorem rnF_mN (m : Int) (neg : Bool) (T : Nat) (E : Int) : rnF (mN m) neg T E = rnF m neg T E := by
  unfold rnF p0 tiny
  simp only [toQ_mN]
/-- beyond all patterns -/
theorem p0_big {m : Int} {neg : Bool} {T : Nat} {E : Int} (hT : T ≠ 0) (h : 1024 ≤ lgN T E) : 9218868437227405312 ≤ p0 m neg T E := by
  have hq := low_lo (m := m) (neg := neg) (T := T) (E := E) hT (by omega)
  have hl : lowE T E = lgN T E - 52 := by unfold lowE; rw [if_neg (by omega)]
  unfold p0
  rw [hl] at hq ⊢
  omega
theorem big_eq {m : Int} {neg : Bool} {T : Nat} {E : Int} (hT : T ≠ 0) (h : 1024 ≤ lgN T E) : rnP m neg T E = bey m neg ∧ rnF m neg T E = 20 := by
  have := p0_big (m := m) (neg := neg) hT h
  unfold rnP rnF
  rw [if_neg hT, if_neg hT, if_pos this, if_pos this]
  exact ⟨rfl, rfl⟩
/-- far below all patterns -/
theorem low_eq {m : Int} {neg : Bool} {T : Nat} {E : Int} (hT : T ≠ 0) (h : lgN T E ≤ -1100) : rnP m neg T E = (if upR m neg false 1 = true then 1 else 0) ∧ rnF m neg T E = 24 := by
  have hb := (bitLen_spec T).1
  have hl : lowE T E = -1074 := by unfold lowE; rw [if_pos (by omega)]
  have hE : ¬ (-1074 : Int) ≤ E := by unfold lgN at h; have := len_pos hT; omega
  have hk : bitLen T + 2 ≤ (-1074 - E).toNat := by unfold lgN at h; omega
  have hp := Nat.pow_le_pow_right (show 0 < 2 by omega) hk
  have e4 : 2 ^ (bitLen T + 2) = 4 * 2 ^ bitLen T := by rw [Nat.pow_add, Nat.mul_comm]
  have hlt : 2 * T < 2 ^ (-1074 - E).toNat := by omega
  have hd : T / 2 ^ (-1074 - E).toNat = 0 := Nat.div_eq_of_lt (by omega)
  have hm : T % 2 ^ (-1074 - E).toNat = T := Nat.mod_eq_of_lt (by omega)
  have hr : restC T (2 ^ (-1074 - E).toNat) = 1 := by unfold restC; rw [if_neg hT, if_pos hlt]
  have hq : toQ m neg T E (-1074) = if upR m neg false 1 = true then 1 else 0 := by
    unfold toQ rq
    rw [if_neg hE, hd, hm, hr]
    have ho : odd 0 = false := rfl
    rw [ho]
    simp
  have hL : toL T E (-1074) = true := by unfold toL; rw [if_neg hE, hm]; exact decide_eq_true hT
  have hti : tiny m neg T E = true := by unfold tiny; rw [if_neg (by omega)]; exact decide_eq_true (by omega)
  have hp0 : p0 m neg T E = if upR m neg false 1 = true then 1 else 0 := by
    unfold p0
    rw [hl, hq]
    split <;> rfl
  unfold rnP rnF
  rw [if_neg hT, if_neg hT, hp0, hl, hL, hti]
  split <;> simp
/-- the program's way and the document's, from any exponent -/
theorem same_round {m : Int} {neg : Bool} {x : W4} (hx : x.ok) (b : Bool) {C D : Int} (h : (C = D) ∨ (1700 ≤ C ∧ 1700 ≤ D) ∨ (C ≤ -1700 ∧ D ≤ -1700)) : rnP m neg (tw x b) (C - 1) = rnP m neg (rT x b) (D - jB b) ∧ rnF m neg (tw x b) (C - 1) = rnF m neg (rT x b) (D - jB b) := by
  have hj : 0 ≤ jB b ∧ jB b ≤ 1 := by cases b <;> simp [jB]
  have e : rnP m neg (tw x b) (C - 1) = rnP m neg (rT x b) (C - jB b) ∧ rnF m neg (tw x b) (C - 1) = rnF m neg (rT x b) (C - jB b) := by
    cases b with
    | true => exact ⟨rfl, rfl⟩
    | false =>
      have e1 : tw x false = x.nat * 2 ^ 1 := by unfold tw; simp [Nat.mul_comm]
      rw [e1]
      simp only [rT, jB, Int.sub_zero]
      exact ⟨rnP_scale m neg x.nat 1 C, rnF_scale m neg x.nat 1 C⟩
  rw [e.1, e.2]
  rcases h with h | h | h
  · rw [h]; exact ⟨rfl, rfl⟩
  · by_cases hT : rT x b = 0
    · rw [hT]; unfold rnP rnF; simp
    · have hl := len_pos hT
      obtain ⟨a1, a2⟩ := big_eq (m := m) (neg := neg) (E := C - jB b) hT (by unfold lgN; omega)
      obtain ⟨b1, b2⟩ := big_eq (m := m) (neg := neg) (E := D - jB b) hT (by unfold lgN; omega)
      rw [a1, a2, b1, b2]; exact ⟨rfl, rfl⟩
  · by_cases hT : rT x b = 0
    · rw [hT]; unfold rnP rnF; simp
    · have hlt := rT_lt hx b
      obtain ⟨k, hk⟩ : ∃ k : Nat, k = 300 := ⟨300, rfl⟩
      have hfp := far_pow (show 300 ≤ k by omega)
      have hl : bitLen (rT x b) ≤ k := len_le (by omega)
      obtain ⟨a1, a2⟩ := low_eq (m := m) (neg := neg) (E := C - jB b) hT (by unfold lgN; omega)
      obtain ⟨b1, b2⟩ := low_eq (m := m) (neg := neg) (E := D - jB b) hT (by unfold lgN; omega)
      rw [a1, a2, b1, b2]; exact ⟨rfl, rfl⟩

/-! ### the document's flags and pattern -/
theorem len53 {q : Nat} (h0 : 4503599627370496 ≤ q) (h1 : q ≤ 9007199254740992) : bitLen q = if q = 9007199254740992 then 54 else 53 := by
  split
  · rename_i h; rw [h]; exact len_uniq (k := 53) (by decide) (by decide)
  · exact len_uniq (k := 52) h0 (show q < 2 ^ 53 by have : (2 : Nat) ^ 53 = 9007199254740992 := rfl; omega)
/-- Underflow -/
theorem tiny_doc {m : Int} {neg : Bool} {T : Nat} {E : Int} (hT : T ≠ 0) : decide ((bitLen (toQ m neg T E (lgN T E - 52)) : Int) + (lgN T E + 1) - 53 ≤ -1022) = tiny m neg T E := by
  have h0 : 4503599627370496 ≤ toQ m neg T E (lgN T E - 52) := toQ_ge (n := 52) hT (by unfold lgN; omega)
  have h1 : toQ m neg T E (lgN T E - 52) ≤ 9007199254740992 := toQ_le (n := 53) (by unfold lgN; omega)
  have hl := len53 h0 h1
  unfold tiny
  by_cases he : lgN T E = -1023
  · have e : lgN T E - 52 = -1075 := by omega
    rw [e] at h0 h1 hl ⊢
    rw [if_pos he, hl]
    congr 1
    simp only [eq_iff_iff]
    split <;> omega
  · rw [if_neg he, hl]
    congr 1
    simp only [eq_iff_iff]
    split <;> omega
/-- Overflow -/
theorem over_doc {m : Int} {neg : Bool} {T : Nat} {E : Int} (hT : T ≠ 0) : decide ((bitLen (toQ m neg T E (lowE T E)) : Int) + lowE T E > 1024) = decide (9218868437227405312 ≤ p0 m neg T E) := by
  have h1 := low_hi m neg T E
  have hle := lowE_ge T E
  congr 1
  simp only [eq_iff_iff]
  unfold p0
  by_cases hn : lowE T E = -1074
  · have hl : bitLen (toQ m neg T E (lowE T E)) ≤ 54 := by
      have : toQ m neg T E (lowE T E) < 2 ^ 54 := by have e : (2 : Nat) ^ 54 = 18014398509481984 := rfl; omega
      exact len_le this
    omega
  · have h0 := low_lo (m := m) (neg := neg) (E := E) hT (by unfold lowE at hn; split at hn <;> omega)
    have hl := len53 h0 h1
    rw [hl]
    split <;> omega
end Go.Rn
