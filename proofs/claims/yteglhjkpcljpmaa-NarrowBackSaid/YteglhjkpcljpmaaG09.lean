/-
  rnd.Round, as a call in every world.
-/
import Derived.Test.YteglhjkpcljpmaaG08
import Derived.Test.YteglhjkpcljpmaaG04
import Derived.Test.YteglhjkpcljpmaaG06
import Derived.Test.YteglhjkpcljpmaaG05
namespace Go.Proofs.Yteglhjkpcljpmaa
open Go.KRun Go.Wd Go.Pt Go.Rn
set_option maxRecDepth 100000

def lgR (ex : Int) (x : W4) : Int := lgW (clp ex) x
def e0 (ex : Int) (x : W4) : Int := if -1074 > m52 (lgR ex x) then -1074 else m52 (lgR ex x)
def qR (m : Int) (n : Bool) (x : W4) (b : Bool) (ex : Int) : Nat := toQ m n (tw x b) (clp ex - 1) (e0 ex x)
def oR (x : W4) (b : Bool) (ex : Int) : Bool := toL (tw x b) (clp ex - 1) (e0 ex x)
def pR (m : Int) (n : Bool) (x : W4) (b : Bool) (ex : Int) : Int := IntKind.u64.wrap (IntKind.u64.wrap (IntKind.u64.wrap (IntKind.i64.wrap (e0 ex x - -1074)) * 2 ^ min (Int.toNat 52) 64) + (ofN (qR m n x b ex)).a)
def sgR (n : Bool) (p : Int) : Int := match n with | true => bXor p 9223372036854775808 | false => p
def lTm (m : Int) (n : Bool) (x : W4) (b : Bool) (ex : Int) (o d : Bool) : Log := [(oR x b ex, o), (decide (qR m n x b ex < 2 ^ 256), true), (okTm x (clp ex) (e0 ex x), true), (decide x.ok, true), (eqW x ⟨0, 0, 0, 0⟩, d)]
def lBig (m : Int) (n : Bool) (x : W4) (b : Bool) (ex : Int) (d : Bool) : Bool × Bool := (decide (pR m n x b ex ≥ 9218868437227405312), d)
def l52 : Bool × Bool := (decide ((52 : Int) < 0), false)
def rdT (p f : Int) : Value := .tuple #[.int .u64 p, .int .u8 f]
theorem rd_zero (n : Bool) (x : W4) (ex m : Int) : Fits (reckon (tabOf Try.prog extY conTi true) 300 25 [vN n ex x false, .int .i64 m] [sam true]) (rdT (sgR n 0) 0) [(eqW x ⟨0, 0, 0, 0⟩, true)] := by
  cases n <;> exact ⟨by kernel_rfl, by kernel_rfl, by kernel_rfl, by kernel_rfl⟩
theorem rd_big (n b o : Bool) (x : W4) (ex m : Int) : Fits (reckon (tabOf Try.prog extY conTi true) 300 25 [vN n ex x b, .int .i64 m] [sam false, cmp true, cmp o, cmp true]) (rdT (sgR n (bey m n)) 20) (lBig m n x b ex true :: l52 :: lTm m n x b ex o false) := by
  cases n <;> cases o <;> exact ⟨by kernel_rfl, by kernel_rfl, by kernel_rfl, by kernel_rfl⟩
theorem rd_big' (n o : Bool) (x : W4) (ex m : Int) : Fits (reckon (tabOf Try.prog extY conTi true) 300 25 [vN n ex x true, .int .i64 m] [sam true, cmp true, cmp o, cmp true]) (rdT (sgR n (bey m n)) 20) (lBig m n x true ex true :: l52 :: lTm m n x true ex o true) := by
  cases n <;> cases o <;> exact ⟨by kernel_rfl, by kernel_rfl, by kernel_rfl, by kernel_rfl⟩
theorem rd_just (n b : Bool) (x : W4) (ex m : Int) : Fits (reckon (tabOf Try.prog extY conTi true) 300 25 [vN n ex x b, .int .i64 m] [sam false, cmp true, cmp false, cmp false]) (rdT (sgR n (pR m n x b ex)) 0) (lBig m n x b ex false :: l52 :: lTm m n x b ex false false) := by
  cases n <;> exact ⟨by kernel_rfl, by kernel_rfl, by kernel_rfl, by kernel_rfl⟩
theorem rd_just' (n : Bool) (x : W4) (ex m : Int) : Fits (reckon (tabOf Try.prog extY conTi true) 300 25 [vN n ex x true, .int .i64 m] [sam true, cmp true, cmp false, cmp false]) (rdT (sgR n (pR m n x true ex)) 0) (lBig m n x true ex false :: l52 :: lTm m n x true ex false true) := by
  cases n <;> exact ⟨by kernel_rfl, by kernel_rfl, by kernel_rfl, by kernel_rfl⟩
def fgT (t : Bool) : Int := match t with | true => 24 | false => 16
def lTn (m : Int) (n : Bool) (x : W4) (b : Bool) (ex : Int) (t : Bool) (l : Log) : Log := (tnK m n (tw x b) (clp ex - 1) (lgR ex x), t) :: (decide (lgR ex x = -1023 → toQ m n (tw x b) (clp ex - 1) (-1075) < 2 ^ 256), true) :: (okTm x (clp ex) 0, true) :: l
theorem rd_near (n b t : Bool) (x : W4) (ex m : Int) : Fits (reckon (tabOf Try.prog extY conTi true) 300 25 [vN n ex x b, .int .i64 m] [sam false, cmp true, cmp true, cmp false, cmp t]) (rdT (sgR n (pR m n x b ex)) (fgT t)) (lTn m n x b ex t (lBig m n x b ex false :: l52 :: lTm m n x b ex true false)) := by
  cases n <;> cases t <;> exact ⟨by kernel_rfl, by kernel_rfl, by kernel_rfl, by kernel_rfl⟩
theorem rd_near' (n t : Bool) (x : W4) (ex m : Int) : Fits (reckon (tabOf Try.prog extY conTi true) 300 25 [vN n ex x true, .int .i64 m] [sam true, cmp true, cmp true, cmp false, cmp t]) (rdT (sgR n (pR m n x true ex)) (fgT t)) (lTn m n x true ex t (lBig m n x true ex false :: l52 :: lTm m n x true ex true true)) := by
  cases n <;> cases t <;> exact ⟨by kernel_rfl, by kernel_rfl, by kernel_rfl, by kernel_rfl⟩

/-! ### its numbers -/
theorem tw_len {x : W4} {b : Bool} (h : tw x b ≠ 0) : bitLen (tw x b) = bitLen x.nat + 1 := by
  have hd : tw x b / 2 ^ 1 = x.nat := by
    have := tw_div x b 0
    simpa using this
  by_cases h0 : x.nat = 0
  · have : tw x b = 1 := by
      have e : tw x b / 2 = x.nat := by simpa using hd
      omega
    rw [this, h0]
    rfl
  · rw [bitLen_shift (tw x b) 1 (by rw [hd]; exact h0), hd]
    omega
theorem len256 {x : W4} (hx : x.ok) : bitLen x.nat ≤ 256 := len_le (W4.nat_lt hx)
theorem lgR_eq {x : W4} {b : Bool} {ex : Int} (hx : x.ok) (h : tw x b ≠ 0) : lgR ex x = lgN (tw x b) (clp ex - 1) := by
  have h1 := clp_bd ex
  have h2 := len256 hx
  unfold lgR lgW lgN
  rw [lenI_nat, tw_len h, wrapI' (n := clp ex + ((bitLen x.nat : Nat) : Int)) ⟨by omega, by omega⟩, wrapI' ⟨by omega, by omega⟩]
  omega
theorem lgN_bd {x : W4} {b : Bool} {ex : Int} (hx : x.ok) (h : tw x b ≠ 0) : -2002 ≤ lgN (tw x b) (clp ex - 1) ∧ lgN (tw x b) (clp ex - 1) ≤ 2300 := by
  have h1 := clp_bd ex
  have h2 := len256 hx
  unfold lgN
  rw [tw_len h]
  omega
theorem e0_eq {x : W4} {b : Bool} {ex : Int} (hx : x.ok) (h : tw x b ≠ 0) : e0 ex x = lowE (tw x b) (clp ex - 1) := by
  have hb := lgN_bd (ex := ex) hx h
  unfold e0 m52 lowE
  rw [lgR_eq hx h, wrapI' ⟨by omega, by omega⟩]
  split <;> split <;> omega
theorem lowE_bd {x : W4} {b : Bool} {ex : Int} (hx : x.ok) (h : tw x b ≠ 0) : -1074 ≤ lowE (tw x b) (clp ex - 1) ∧ lowE (tw x b) (clp ex - 1) ≤ 2300 := by
  have hb := lgN_bd (ex := ex) hx h
  unfold lowE
  split <;> omega
theorem ofN_a {q : Nat} (h : q < 18446744073709551616) : (ofN q).a = (q : Int) := by unfold ofN W4.of; dsimp only; omega
theorem pR_eq {m : Int} {n : Bool} {x : W4} {b : Bool} {ex : Int} (hx : x.ok) (h : tw x b ≠ 0) : pR m n x b ex = p0 m n (tw x b) (clp ex - 1) ∧ p0 m n (tw x b) (clp ex - 1) < 18446744073709551616 := by
  have hb := lowE_bd (ex := ex) hx h
  have hq := low_hi m n (tw x b) (clp ex - 1)
  have e1 : ((2 : Int) ^ min (Int.toNat 52) 64) = 4503599627370496 := by rfl
  unfold pR qR p0
  rw [e0_eq hx h, ofN_a (by omega), e1, wrapI' ⟨by omega, by omega⟩, wrapU' (n := lowE (tw x b) (clp ex - 1) - -1074) ⟨by omega, by omega⟩, wrapU' (n := (lowE (tw x b) (clp ex - 1) - -1074) * 4503599627370496) ⟨by omega, by omega⟩, wrapU' ⟨by omega, by omega⟩]
  omega
def sS (n : Bool) (p : Int) : Int := if n = true then 9223372036854775808 + p else p
theorem sgR_eq {n : Bool} {p : Int} (h0 : 0 ≤ p) (h1 : p ≤ 9218868437227405312) : sgR n p = sS n p := by
  cases n
  · rfl
  · simp only [sgR, sS, if_true]
    rw [bXor_sign ⟨by omega, by omega⟩]
    omega
theorem tnK_eq (m : Int) (n : Bool) (T : Nat) (E : Int) : tnK m n T E (lgN T E) = tiny m n T E := rfl
/-- what Round answers -/
def rdV (m : Int) (n : Bool) (T : Nat) (E : Int) : Value := rdT (sS n (rnP m n T E)) (rnF m n T E)
theorem round_calls (n b : Bool) (x : W4) (ex m : Int) (hx : x.ok) (w : World) : Calls Try.prog 25 #[vN n ex x b, .int .i64 m] w fun r w' => r = .returned (rdV m n (tw x b) (clp ex - 1)) ∧ Tidy w w' := by
  have hv : ([vN n ex x b, .int .i64 m].all (lt 0)) = true := rfl
  unfold rdV
  by_cases hz : tw x b = 0
  · have h1 := (tw_zero hx).1 hz
    rw [Bool.and_eq_true] at h1
    have hb : b = false := by simpa using h1.2
    subst hb
    have h := fits_calls (tabY_ok conTi_ok) (rd_zero n x ex m) (okL1 h1.1) hv (by rfl) w
    rw [sgR_eq (by omega) (by omega)] at h
    unfold rnP rnF
    rw [if_pos hz, if_pos hz]
    exact h
  · obtain ⟨ep, hp⟩ := pR_eq (m := m) (n := n) (ex := ex) hx hz
    have hbd := clp_bd ex
    have hel := lowE_bd (ex := ex) hx hz
    have hq := low_hi m n (tw x b) (clp ex - 1)
    have ee := e0_eq (ex := ex) hx hz
    have el := lgR_eq (ex := ex) hx hz
    have hp0 := p0_nonneg m n (tw x b) (clp ex - 1)
    have e256 : (2 : Nat) ^ 256 = 115792089237316195423570985008687907853269984665640564039457584007913129639936 := rfl
    have kq : decide (qR m n x b ex < 2 ^ 256) = true := decide_eq_true (by unfold qR; rw [ee]; omega)
    have kt : okTm x (clp ex) (e0 ex x) = true := decide_eq_true ⟨hx, by omega, by omega, by omega, by omega⟩
    have kt0 : okTm x (clp ex) 0 = true := decide_eq_true ⟨hx, by omega, by omega, by omega, by omega⟩
    have kx : decide x.ok = true := decide_eq_true hx
    have ko : oR x b ex = toL (tw x b) (clp ex - 1) (lowE (tw x b) (clp ex - 1)) := by unfold oR; rw [ee]
    have kn : decide (lgR ex x = -1023 → toQ m n (tw x b) (clp ex - 1) (-1075) < 2 ^ 256) = true := decide_eq_true fun hl => by
      rw [el] at hl
      have : toQ m n (tw x b) (clp ex - 1) (-1075) ≤ 2 ^ 53 := toQ_le (by unfold lgN at hl; omega)
      have e53 : (2 : Nat) ^ 53 = 9007199254740992 := rfl
      omega
    have key : ∃ d, eqW x ⟨0, 0, 0, 0⟩ = d ∧ (d = false ∨ (d = true ∧ b = true)) := by
      refine ⟨_, rfl, ?_⟩
      cases he : eqW x ⟨0, 0, 0, 0⟩
      · exact .inl rfl
      · right
        refine ⟨rfl, ?_⟩
        cases hb : b
        · exact absurd ((tw_zero hx).2 (by rw [he, hb]; rfl)) hz
        · rfl
    obtain ⟨d, hd, hdb⟩ := key
    have lt5 : ∀ o, oR x b ex = o → okLog (lTm m n x b ex o d) := fun o ho => okCons ho (okCons kq (okCons kt (okCons kx (okL1 hd))))
    unfold rnP rnF
    rw [if_neg hz, if_neg hz]
    by_cases hbig : 9218868437227405312 ≤ p0 m n (tw x b) (clp ex - 1)
    · rw [if_pos hbig, if_pos hbig]
      have hb2 := bey_or m n
      have hs : sgR n (bey m n) = sS n (bey m n) := sgR_eq (by omega) (by omega)
      rw [← hs]
      have lB : decide (pR m n x b ex ≥ 9218868437227405312) = true := decide_eq_true (by rw [ep]; exact hbig)
      rcases hdb with rfl | ⟨rfl, rfl⟩
      · exact fits_calls (tabY_ok conTi_ok) (rd_big n b (oR x b ex) x ex m) (okCons lB (okCons rfl (lt5 _ rfl))) hv (by rfl) w
      · exact fits_calls (tabY_ok conTi_ok) (rd_big' n (oR x true ex) x ex m) (okCons lB (okCons rfl (lt5 _ rfl))) hv (by rfl) w
    · rw [if_neg hbig, if_neg hbig]
      have hs : sgR n (pR m n x b ex) = sS n (p0 m n (tw x b) (clp ex - 1)) := by rw [ep]; exact sgR_eq hp0 (by omega)
      rw [← hs]
      have lB : decide (pR m n x b ex ≥ 9218868437227405312) = false := decide_eq_false (by rw [ep]; exact hbig)
      by_cases hl : toL (tw x b) (clp ex - 1) (lowE (tw x b) (clp ex - 1)) = true
      · rw [if_pos hl]
        have ht : tnK m n (tw x b) (clp ex - 1) (lgR ex x) = tiny m n (tw x b) (clp ex - 1) := by rw [el, tnK_eq]
        have ef : (if tiny m n (tw x b) (clp ex - 1) = true then (24 : Int) else 16) = fgT (tiny m n (tw x b) (clp ex - 1)) := by
          cases tiny m n (tw x b) (clp ex - 1) <;> rfl
        rw [ef]
        rcases hdb with rfl | ⟨rfl, rfl⟩
        · exact fits_calls (tabY_ok conTi_ok) (rd_near n b (tiny m n (tw x b) (clp ex - 1)) x ex m) (okCons ht (okCons kn (okCons kt0 (okCons lB (okCons rfl (lt5 _ (ko.trans hl))))))) hv (by rfl) w
        · exact fits_calls (tabY_ok conTi_ok) (rd_near' n (tiny m n (tw x true) (clp ex - 1)) x ex m) (okCons ht (okCons kn (okCons kt0 (okCons lB (okCons rfl (lt5 _ (ko.trans hl))))))) hv (by rfl) w
      · rw [if_neg hl]
        have hl' := ko.trans (by simpa using hl)
        rcases hdb with rfl | ⟨rfl, rfl⟩
        · exact fits_calls (tabY_ok conTi_ok) (rd_just n b x ex m) (okCons lB (okCons rfl (lt5 _ hl'))) hv (by rfl) w
        · exact fits_calls (tabY_ok conTi_ok) (rd_just' n x ex m) (okCons lB (okCons rfl (lt5 _ hl'))) hv (by rfl) w
def gRd : Ans := fun vals s =>
  match vals with
  | [v, .int .i64 m] =>
    match n7 v with
    | some (n, ex, x, b) => some (rdV m n (tw x b) (clp ex - 1), s, [(decide x.ok, true)])
    | none => none
  | _ => none
theorem gRd_ok : AnsOk 25 gRd := by
  intro vals s v s' lg h hl w
  unfold gRd at h
  split at h
  · split at h
    · rename_i n ex x b hn
      cases h
      rw [n7_spec hn]
      exact round_calls n b x ex _ (of_decide_eq_true (hl _ (List.mem_singleton.2 rfl))) w
    · cases h
  · cases h
/-! ### sure -/
def conR0 : Con := alt 25 gRd conN
theorem conR0_ok : ConOk conR0 := alt_ok Try.func25 rfl gRd_ok conN_ok
end Go.Proofs.Yteglhjkpcljpmaa

/-
  rnd.Whole, as a call in every world.
-/
namespace Go.Proofs.Yteglhjkpcljpmaa
open Go.KRun Go.Wd Go.Pt Go.Rn
set_option maxRecDepth 100000

def whX (n : Bool) (ex : Int) (x : W4) (b : Bool) : Value := .tuple #[vN n ex x b, .bool false]
theorem wh1 (n b : Bool) (x : W4) (ex m : Int) : Fits (reckon (tabOf Try.prog extY conTi true) 300 61 [vN n ex x b, .int .i64 m] [cmp true]) (whX n ex x b) [(decide (ex > 0), true)] := ⟨by kernel_rfl, by kernel_rfl, by kernel_rfl, by kernel_rfl⟩
theorem wh2 (n : Bool) (x : W4) (ex m : Int) : Fits (reckon (tabOf Try.prog extY conTi true) 300 61 [vN n ex x false, .int .i64 m] [cmp false, cmp true]) (whX n ex x false) [(ex == 0, true), (decide (ex > 0), false)] := ⟨by kernel_rfl, by kernel_rfl, by kernel_rfl, by kernel_rfl⟩
def whQ (m : Int) (n : Bool) (x : W4) (b : Bool) (ex : Int) : Nat := toQ m n (tw x b) (clp ex - 1) 0
def whL (x : W4) (b : Bool) (ex : Int) : Bool := toL (tw x b) (clp ex - 1) 0
theorem wh3 (n e : Bool) (x : W4) (ex m : Int) : Fits (reckon (tabOf Try.prog extY conTi true) 300 61 [vN n ex x true, .int .i64 m] [cmp false, cmp true, cmp true, cmp e]) (tmR n 0 (ofN (whQ m n x true ex)) e) [(whL x true ex, e), (decide (whQ m n x true ex < 2 ^ 256), true), (okTm x (clp ex) 0, true), (ex == 0, true), (decide (ex > 0), false)] := ⟨by kernel_rfl, by kernel_rfl, by kernel_rfl, by kernel_rfl⟩
theorem wh4 (n b e : Bool) (x : W4) (ex m : Int) : Fits (reckon (tabOf Try.prog extY conTi true) 300 61 [vN n ex x b, .int .i64 m] [cmp false, cmp false, cmp true, cmp e]) (tmR n 0 (ofN (whQ m n x b ex)) e) [(whL x b ex, e), (decide (whQ m n x b ex < 2 ^ 256), true), (okTm x (clp ex) 0, true), (ex == 0, false), (decide (ex > 0), false)] := ⟨by kernel_rfl, by kernel_rfl, by kernel_rfl, by kernel_rfl⟩
theorem wh5 (n : Bool) (x : W4) (ex m : Int) : Fits (reckon (tabOf Try.prog extY conTi true) 300 61 [vN n ex x true, .int .i64 m] [cmp false, cmp true, cmp false]) (tmR n 1 w63 (whL x true ex)) [(decide (whQ m n x true ex < 2 ^ 256), false), (decide (clp ex ≤ 0), true), (okTm x (clp ex) 0, true), (ex == 0, true), (decide (ex > 0), false)] := ⟨by kernel_rfl, by kernel_rfl, by kernel_rfl, by kernel_rfl⟩
theorem wh6 (n b : Bool) (x : W4) (ex m : Int) : Fits (reckon (tabOf Try.prog extY conTi true) 300 61 [vN n ex x b, .int .i64 m] [cmp false, cmp false, cmp false]) (tmR n 1 w63 (whL x b ex)) [(decide (whQ m n x b ex < 2 ^ 256), false), (decide (clp ex ≤ 0), true), (okTm x (clp ex) 0, true), (ex == 0, false), (decide (ex > 0), false)] := ⟨by kernel_rfl, by kernel_rfl, by kernel_rfl, by kernel_rfl⟩
/-- it stays as it is -/
def early (ex : Int) (b : Bool) : Bool := decide (0 < ex) || (decide (ex = 0) && !b)
def gWh : Ans := fun vals s =>
  match vals with
  | [v, .int .i64 m] =>
    match n7 v, s with
    | some (n, ex, x, b), .inr (.inr (.inr (.inl true))) :: s' => some (whX n ex x b, s', [(early ex b, true)])
    | some (n, ex, x, b), .inr (.inr (.inr (.inl false))) :: .inr (.inr (.inr (.inl true))) :: .inr (.inr (.inr (.inl e))) :: s' => some (tmR n 0 (ofN (whQ m n x b ex)) e, s', [(whL x b ex, e), (decide (whQ m n x b ex < 2 ^ 256), true), (early ex b, false), (decide x.ok, true)])
    | some (n, ex, x, b), .inr (.inr (.inr (.inl false))) :: .inr (.inr (.inr (.inl false))) :: .inr (.inr (.inr (.inl e))) :: s' => some (tmR n 1 w63 e, s', [(whL x b ex, e), (decide (whQ m n x b ex < 2 ^ 256), false), (early ex b, false), (decide x.ok, true)])
    | _, _ => none
  | _ => none
theorem not_early {ex : Int} {b : Bool} (h : early ex b = false) : ¬ 0 < ex ∧ (ex = 0 → b = true) := by
  unfold early at h
  simp only [Bool.or_eq_false_iff, decide_eq_false_iff_not, Bool.and_eq_false_iff, Bool.not_eq_false'] at h
  exact ⟨h.1, fun h0 => h.2.resolve_left (fun hn => hn h0)⟩
theorem gWh_ok : AnsOk 61 gWh := by
  intro vals s v s' lg h hl w
  unfold gWh at h
  split at h
  · rename_i v0 m
    split at h
    · rename_i n ex x b s2 hn
      cases h
      have h1 := hl _ (List.mem_singleton.2 rfl)
      rw [n7_spec hn]
      unfold early at h1
      simp only [Bool.or_eq_true, decide_eq_true_eq, Bool.and_eq_true, Bool.not_eq_true'] at h1
      by_cases h0 : 0 < ex
      · exact fits_calls (tabY_ok conTi_ok) (wh1 n b x ex m) (okL1 (decide_eq_true h0)) (by rfl) (by rfl) w
      · rcases h1 with h1 | ⟨h1, h2⟩
        · exact absurd h1 h0
        · subst h2
          exact fits_calls (tabY_ok conTi_ok) (wh2 n x ex m) (okCons (by rw [h1]; rfl) (okL1 (decide_eq_false h0))) (by rfl) (by rfl) w
    · rename_i n ex x b e s2 hn
      cases h
      rw [okCs, okCs, okCs, okCs] at hl
      obtain ⟨l1, l2, l3, l4, _⟩ := hl
      have hx := of_decide_eq_true l4
      obtain ⟨n1, n2⟩ := not_early l3
      have hc := clp_bd ex
      have kt : okTm x (clp ex) 0 = true := decide_eq_true ⟨hx, by omega, by omega, by omega, by omega⟩
      rw [n7_spec hn]
      by_cases h0 : ex = 0
      · have hb := n2 h0
        subst hb
        exact fits_calls (tabY_ok conTi_ok) (wh3 n e x ex m) (okCons l1 (okCons l2 (okCons kt (okCons (by rw [h0]; rfl) (okL1 (decide_eq_false n1)))))) (by rfl) (by rfl) w
      · exact fits_calls (tabY_ok conTi_ok) (wh4 n b e x ex m) (okCons l1 (okCons l2 (okCons kt (okCons (by simp [h0]) (okL1 (decide_eq_false n1)))))) (by rfl) (by rfl) w
    · rename_i n ex x b e s2 hn
      cases h
      rw [okCs, okCs, okCs, okCs] at hl
      obtain ⟨l1, l2, l3, l4, _⟩ := hl
      have hx := of_decide_eq_true l4
      obtain ⟨n1, n2⟩ := not_early l3
      have hc := clp_bd ex
      have hc0 : clp ex ≤ 0 := by unfold clp; split <;> split <;> omega
      have kt : okTm x (clp ex) 0 = true := decide_eq_true ⟨hx, by omega, by omega, by omega, by omega⟩
      rw [n7_spec hn, ← l1]
      by_cases h0 : ex = 0
      · have hb := n2 h0
        subst hb
        exact fits_calls (tabY_ok conTi_ok) (wh5 n x ex m) (okCons l2 (okCons (decide_eq_true hc0) (okCons kt (okCons (by rw [h0]; rfl) (okL1 (decide_eq_false n1)))))) (by rfl) (by rfl) w
      · exact fits_calls (tabY_ok conTi_ok) (wh6 n b x ex m) (okCons l2 (okCons (decide_eq_true hc0) (okCons kt (okCons (by simp [h0]) (okL1 (decide_eq_false n1)))))) (by rfl) (by rfl) w
    · cases h
  · cases h
end Go.Proofs.Yteglhjkpcljpmaa

/-
  Layer 3's calls on patterns, as calls in every world: pat.Abs, pat.Class, pat.Take, and the document's own Take.
-/
namespace Go.Proofs.Yteglhjkpcljpmaa
open Go.KRun Go.Pt
set_option maxRecDepth 100000

/-- a call with one word of 64 bits -/
def gU (k : Int → Value) : Ans := fun vals s =>
  match vals with
  | [.int .u64 p] => some (k p, s, [(decide (U p), true)])
  | _ => none
theorem gU_ok {f : Nat} {k : Int → Value} (hk : ∀ p : Int, U p → ∀ w, Calls Try.prog f #[.int .u64 p] w fun e w' => e = .returned (k p) ∧ Tidy w w') : AnsOk f (gU k) := by
  intro vals s v s' lg h hl w
  unfold gU at h
  split at h
  · cases h
    exact hk _ (of_decide_eq_true (hl _ (List.mem_singleton.2 rfl))) w
  · cases h

theorem abs_fits (p : Int) : Fits (reckon (tabOf Try.prog extY conN true) 300 59 [.int .u64 p] []) (.int .u64 (bNot p 9223372036854775808)) [] := ⟨by kernel_rfl, by kernel_rfl, by kernel_rfl, by kernel_rfl⟩
theorem abs_ok : AnsOk 59 (gU fun p => .int .u64 (mag p)) := gU_ok fun p hp w => by
  have := fits_calls (tabY_ok conN_ok) (abs_fits p) (fun x hx => by cases hx) (by rfl) (by rfl) w
  rw [bNot_sign hp] at this
  exact this
def conA : Con := alt 59 (gU fun p => .int .u64 (mag p)) conN
theorem conA_ok : ConOk conA := alt_ok Try.func59 rfl abs_ok conN_ok
/-- the exponent as the code reckons it -/
def exM (p : Int) : Int := IntKind.i64.wrap ((mag p).fdiv (2 ^ min (52 : Int).toNat 64))
theorem exM_eq (p : Int) : exM p = ex p := by
  have e : ((2 : Int) ^ min (52 : Int).toNat 64) = 4503599627370496 := by rfl
  unfold exM
  rw [e, Int.fdiv_eq_ediv_of_nonneg _ (by omega), ex_mag]
  have := ex_lt p
  exact wrapI' ⟨by omega, by omega⟩
def frM (p : Int) : Int := bAnd p 4503599627370495
def lX (p : Int) (l : Log) : Log := (decide ((52 : Int) < 0), false) :: (decide (U p), true) :: l
theorem lX_ok {p : Int} (hp : U p) : okLog (lX p []) := okCons rfl (okL1 (decide_eq_true hp))
def lQ (p : Int) : Bool := bAnd (frM p) 2251799813685248 != 0
theorem cls_small (p : Int) (d : Bool) : Fits (reckon (tabOf Try.prog extY conA true) 300 12 [.int .u64 p] [cmp true, cmp d]) (.int .i64 (match d with | true => 0 | false => 1)) ((frM p == 0, d) :: (exM p == 0, true) :: lX p []) := by
  cases d <;> exact ⟨by kernel_rfl, by kernel_rfl, by kernel_rfl, by kernel_rfl⟩
theorem cls_endless (p : Int) : Fits (reckon (tabOf Try.prog extY conA true) 300 12 [.int .u64 p] [cmp false, cmp true, cmp true]) (.int .i64 3) ((frM p == 0, true) :: (exM p == 2047, true) :: (exM p == 0, false) :: lX p []) := ⟨by kernel_rfl, by kernel_rfl, by kernel_rfl, by kernel_rfl⟩
theorem cls_great (p : Int) (d : Bool) : Fits (reckon (tabOf Try.prog extY conA true) 300 12 [.int .u64 p] [cmp false, cmp true, cmp false, cmp d]) (.int .i64 (match d with | true => 4 | false => 5)) ((lQ p, d) :: (frM p == 0, false) :: (exM p == 2047, true) :: (exM p == 0, false) :: lX p []) := by
  cases d <;> exact ⟨by kernel_rfl, by kernel_rfl, by kernel_rfl, by kernel_rfl⟩
theorem cls_plain (p : Int) : Fits (reckon (tabOf Try.prog extY conA true) 300 12 [.int .u64 p] [cmp false, cmp false]) (.int .i64 2) ((exM p == 2047, false) :: (exM p == 0, false) :: lX p []) := ⟨by kernel_rfl, by kernel_rfl, by kernel_rfl, by kernel_rfl⟩
theorem frM_eq {p : Int} (hp : U p) : frM p = fr p := bAnd_frac hp
theorem lQ_eq {p : Int} (hp : U p) : lQ p = decide (2251799813685248 ≤ fr p) := by
  have := fr_lt p
  unfold lQ
  rw [frM_eq hp, bAnd_quiet ⟨by omega, by omega⟩]
  by_cases h : 2251799813685248 ≤ fr p
  · rw [decide_eq_true h, show fr p / 2251799813685248 = 1 from by omega]; rfl
  · rw [decide_eq_false h, show fr p / 2251799813685248 = 0 from by omega]; rfl
theorem cls_ok : AnsOk 12 (gU fun p => .int .i64 (cl p)) := gU_ok fun p hp w => by
  have hl := lX_ok hp
  have ee := exM_eq p
  have ef := frM_eq hp
  unfold cl
  by_cases h0 : ex p = 0
  · rw [if_pos h0]
    have := fits_calls (tabY_ok conA_ok) (cls_small p (frM p == 0)) (okCons rfl (okCons (by rw [ee]; simp [h0]) hl)) (by rfl) (by cases (frM p == 0) <;> rfl) w
    rw [ef] at this
    by_cases h1 : fr p = 0
    · rw [if_pos h1]; rw [show (fr p == 0) = true from by simp [h1]] at this; exact this
    · rw [if_neg h1]; rw [show (fr p == 0) = false from by simp [h1]] at this; exact this
  · rw [if_neg h0]
    by_cases h2 : ex p = 2047
    · rw [if_pos h2]
      by_cases h1 : fr p = 0
      · rw [if_pos h1]
        exact fits_calls (tabY_ok conA_ok) (cls_endless p) (okCons (by rw [ef]; simp [h1]) (okCons (by rw [ee]; simp [h2]) (okCons (by rw [ee]; simp [h0]) hl))) (by rfl) (by rfl) w
      · rw [if_neg h1]
        have := fits_calls (tabY_ok conA_ok) (cls_great p (lQ p)) (okCons rfl (okCons (by rw [ef]; simp [h1]) (okCons (by rw [ee]; simp [h2]) (okCons (by rw [ee]; simp [h0]) hl)))) (by rfl) (by cases (lQ p) <;> rfl) w
        rw [lQ_eq hp] at this
        by_cases h3 : 2251799813685248 ≤ fr p
        · rw [if_pos h3]; rw [decide_eq_true h3] at this; exact this
        · rw [if_neg h3]; rw [decide_eq_false h3] at this; exact this
    · rw [if_neg h2]
      exact fits_calls (tabY_ok conA_ok) (cls_plain p) (okCons (by rw [ee]; simp [h2]) (okCons (by rw [ee]; simp [h0]) hl)) (by rfl) (by rfl) w
def conB : Con := alt 12 (gU fun p => .int .i64 (cl p)) conA
theorem conB_ok : ConOk conB := alt_ok Try.func12 rfl cls_ok conA_ok

/-! ### Take -/
def vP (m : Bool) (c e s : Int) : Value := .agg #[.bool m, .int .i64 c, .int .i64 e, .int .u64 s]
def vT (p : Int) : Value := vP (sgn p) (cl p) (xp p) (sg p)
def lS (p : Int) (d : Bool) : Bool × Bool := (bAnd p 9223372036854775808 != 0, d)
def lU (p : Int) : Bool × Bool := (decide (U p), true)
theorem take_nought (p : Int) (d : Bool) : Fits (reckon (tabOf Try.prog extY conB true) 300 33 [.int .u64 p] [cmp d, cmp true]) (vP d (cl p) (-1074) (frM p)) [(cl p == 0, true), lU p, lS p d] := ⟨by kernel_rfl, by kernel_rfl, by kernel_rfl, by kernel_rfl⟩
theorem take_tiny (p : Int) (d : Bool) : Fits (reckon (tabOf Try.prog extY conB true) 300 33 [.int .u64 p] [cmp d, cmp false, cmp true]) (vP d (cl p) (-1074) (frM p)) [(cl p == 1, true), (cl p == 0, false), lU p, lS p d] := ⟨by kernel_rfl, by kernel_rfl, by kernel_rfl, by kernel_rfl⟩
theorem take_plain (p : Int) (d : Bool) : Fits (reckon (tabOf Try.prog extY conB true) 300 33 [.int .u64 p] [cmp d, cmp false, cmp false, cmp true]) (vP d (cl p) (IntKind.i64.wrap (exM p - 1075)) (bOr (frM p) 4503599627370496)) [(decide ((52 : Int) < 0), false), lU p, (cl p == 2, true), (cl p == 1, false), (cl p == 0, false), lU p, lS p d] := ⟨by kernel_rfl, by kernel_rfl, by kernel_rfl, by kernel_rfl⟩
theorem take_great (p : Int) (d : Bool) : Fits (reckon (tabOf Try.prog extY conB true) 300 33 [.int .u64 p] [cmp d, cmp false, cmp false, cmp false]) (vP d (cl p) 0 (frM p)) [(cl p == 2, false), (cl p == 1, false), (cl p == 0, false), lU p, lS p d] := ⟨by kernel_rfl, by kernel_rfl, by kernel_rfl, by kernel_rfl⟩
theorem sign_eq {p : Int} (hp : U p) : (bAnd p 9223372036854775808 != 0) = sgn p := by
  rw [bAnd_sign hp]
  unfold sgn
  unfold U at hp
  by_cases h : 9223372036854775808 ≤ p
  · rw [decide_eq_true h, show p / 9223372036854775808 = 1 from by omega]; rfl
  · rw [decide_eq_false h, show p / 9223372036854775808 = 0 from by omega]; rfl
theorem cl_cases (p : Int) : (ex p = 0 ∧ (cl p = 0 ∨ cl p = 1)) ∨ (ex p = 2047 ∧ 3 ≤ cl p) ∨ (ex p ≠ 0 ∧ ex p ≠ 2047 ∧ cl p = 2) := by
  unfold cl
  split
  · split <;> omega
  · split
    · split
      · omega
      · split <;> omega
    · omega
theorem lead_or {p : Int} : bOr (fr p) 4503599627370496 = fr p + 4503599627370496 := by
  have := fr_lt p
  rw [or_low 52 (z := 1) (by omega) (by rfl) this.1 (show fr p < 2 ^ 52 from this.2) (by omega)]
  omega
theorem take_calls (p : Int) (hp : U p) (w : World) : Calls Try.prog 33 #[.int .u64 p] w fun e w' => e = .returned (vT p) ∧ Tidy w w' := by
  have hu : decide (U p) = true := decide_eq_true hp
  have hs := sign_eq hp
  have hf := frM_eq hp
  have he := exM_eq p
  have hx := ex_lt p
  unfold vT xp sg
  rcases cl_cases p with ⟨h1, h2⟩ | ⟨h1, h2⟩ | ⟨h1, h2, h3⟩
  · rw [if_pos h1, if_pos h1]
    rcases h2 with h2 | h2
    · have := fits_calls (tabY_ok conB_ok) (take_nought p (sgn p)) (okCons (by simp [h2]) (okCons hu (okL1 hs))) (by rfl) (by rfl) w
      rw [hf] at this
      exact this
    · have := fits_calls (tabY_ok conB_ok) (take_tiny p (sgn p)) (okCons (by simp [h2]) (okCons (by simp [h2]) (okCons hu (okL1 hs)))) (by rfl) (by rfl) w
      rw [hf] at this
      exact this
  · have h0 : ¬ ex p = 0 := by omega
    simp only [if_neg h0, if_pos h1]
    have h3 : ¬ cl p = 0 := by omega
    have h4 : ¬ cl p = 1 := by omega
    have h5 : ¬ cl p = 2 := by omega
    have := fits_calls (tabY_ok conB_ok) (take_great p (sgn p)) (okCons (by simp [h5]) (okCons (by simp [h4]) (okCons (by simp [h3]) (okCons hu (okL1 hs))))) (by rfl) (by rfl) w
    rw [hf] at this
    exact this
  · rw [if_neg h1, if_neg h1, if_neg h2, if_neg h2]
    have := fits_calls (tabY_ok conB_ok) (take_plain p (sgn p)) (okCons rfl (okCons hu (okCons (by simp [h3]) (okCons (by simp [h3]) (okCons (by simp [h3]) (okCons hu (okL1 hs))))))) (by rfl) (by rfl) w
    rw [hf, he, wrapI' ⟨by omega, by omega⟩, lead_or] at this
    exact this
theorem take_ok : AnsOk 33 (gU vT) := gU_ok take_calls
/-! ### the document's Take -/
def exR (p : Int) : Int := (IntKind.u64.wrap (p.tdiv 4503599627370496)).tmod 2048
def frR (p : Int) : Int := p.tmod 4503599627370496
def lR (p : Int) (d : Bool) : Log := [(decide (p ≥ 9223372036854775808), d), (decide ((4503599627370496 : Int) = 0), false), (decide ((2048 : Int) = 0), false)]
theorem ref_plain (p : Int) (d : Bool) : Fits (reckon (tabOf Try.prog extY conN true) 300 40 [.int .u64 p] [cmp true, cmp true, cmp d, cmp false, cmp false]) (vP d 2 (IntKind.i64.wrap (IntKind.i64.wrap (exR p) - 1075)) (IntKind.u64.wrap (frR p + 4503599627370496))) ((exR p == 0, false) :: (exR p == 2047, false) :: lR p d) := ⟨by kernel_rfl, by kernel_rfl, by kernel_rfl, by kernel_rfl⟩
theorem ref_quiet (p : Int) (d : Bool) : Fits (reckon (tabOf Try.prog extY conN true) 300 40 [.int .u64 p] [cmp true, cmp true, cmp d, cmp true, cmp true]) (vP d 4 0 (frR p)) ((decide (frR p ≥ 2251799813685248), true) :: (exR p == 2047, true) :: lR p d) := ⟨by kernel_rfl, by kernel_rfl, by kernel_rfl, by kernel_rfl⟩
theorem ref_great (p : Int) (d b : Bool) : Fits (reckon (tabOf Try.prog extY conN true) 300 40 [.int .u64 p] [cmp true, cmp true, cmp d, cmp true, cmp false, cmp b]) (vP d (match b with | true => 5 | false => 3) 0 (frR p)) ((decide (frR p > 0), b) :: (decide (frR p ≥ 2251799813685248), false) :: (exR p == 2047, true) :: lR p d) := by
  cases b <;> exact ⟨by kernel_rfl, by kernel_rfl, by kernel_rfl, by kernel_rfl⟩
theorem ref_small (p : Int) (d b : Bool) : Fits (reckon (tabOf Try.prog extY conN true) 300 40 [.int .u64 p] [cmp true, cmp true, cmp d, cmp false, cmp true, cmp b]) (vP d (match b with | true => 1 | false => 0) (-1074) (frR p)) ((decide (frR p > 0), b) :: (exR p == 0, true) :: (exR p == 2047, false) :: lR p d) := by
  cases b <;> exact ⟨by kernel_rfl, by kernel_rfl, by kernel_rfl, by kernel_rfl⟩
theorem exR_eq {p : Int} (hp : U p) : exR p = ex p := by
  unfold exR ex U at *
  rw [Int.tdiv_eq_ediv_of_nonneg hp.1, wrapU' ⟨by omega, by omega⟩, Int.tmod_eq_emod_of_nonneg (by omega)]
theorem frR_eq {p : Int} (hp : U p) : frR p = fr p := by unfold frR fr U at *; rw [Int.tmod_eq_emod_of_nonneg hp.1]
theorem ref_calls (p : Int) (hp : U p) (w : World) : Calls Try.prog 40 #[.int .u64 p] w fun e w' => e = .returned (vT p) ∧ Tidy w w' := by
  have hl : okLog (lR p (sgn p)) := okCons rfl (okCons rfl (okL1 rfl))
  have hf := frR_eq hp
  have he := exR_eq hp
  have hx := ex_lt p
  have hy := fr_lt p
  unfold vT xp sg cl
  by_cases h0 : ex p = 0
  · simp only [if_pos h0]
    by_cases h1 : fr p = 0
    · simp only [if_pos h1]
      have := fits_calls (tabY_ok conN_ok) (ref_small p (sgn p) false) (okCons (by rw [hf]; simp [h1]) (okCons (by rw [he]; simp [h0]) (okCons (by rw [he]; simp [h0]) hl))) (by rfl) (by rfl) w
      rw [hf] at this
      exact this
    · simp only [if_neg h1]
      have := fits_calls (tabY_ok conN_ok) (ref_small p (sgn p) true) (okCons (by rw [hf]; exact decide_eq_true (by omega)) (okCons (by rw [he]; simp [h0]) (okCons (by rw [he]; simp [h0]) hl))) (by rfl) (by rfl) w
      rw [hf] at this
      exact this
  · simp only [if_neg h0]
    by_cases h2 : ex p = 2047
    · simp only [if_pos h2]
      by_cases h3 : 2251799813685248 ≤ fr p
      · simp only [if_pos h3, if_neg (show ¬ fr p = 0 by omega)]
        have := fits_calls (tabY_ok conN_ok) (ref_quiet p (sgn p)) (okCons (by rw [hf]; exact decide_eq_true h3) (okCons (by rw [he]; simp [h2]) hl)) (by rfl) (by rfl) w
        rw [hf] at this
        exact this
      · by_cases h1 : fr p = 0
        · simp only [if_pos h1]
          have := fits_calls (tabY_ok conN_ok) (ref_great p (sgn p) false) (okCons (by rw [hf]; simp [h1]) (okCons (by rw [hf]; exact decide_eq_false h3) (okCons (by rw [he]; simp [h2]) hl))) (by rfl) (by rfl) w
          rw [hf] at this
          exact this
        · simp only [if_neg h1, if_neg h3]
          have := fits_calls (tabY_ok conN_ok) (ref_great p (sgn p) true) (okCons (by rw [hf]; exact decide_eq_true (by omega)) (okCons (by rw [hf]; exact decide_eq_false h3) (okCons (by rw [he]; simp [h2]) hl))) (by rfl) (by rfl) w
          rw [hf] at this
          exact this
    · simp only [if_neg h2]
      have := fits_calls (tabY_ok conN_ok) (ref_plain p (sgn p)) (okCons (by rw [he]; simp [h0]) (okCons (by rw [he]; simp [h2]) hl)) (by rfl) (by rfl) w
      rw [hf, he, wrapI' (n := ex p) ⟨by omega, by omega⟩, wrapI' ⟨by omega, by omega⟩, wrapU' ⟨by omega, by omega⟩] at this
      exact this
theorem ref_ok : AnsOk 40 (gU vT) := gU_ok ref_calls
end Go.Proofs.Yteglhjkpcljpmaa
