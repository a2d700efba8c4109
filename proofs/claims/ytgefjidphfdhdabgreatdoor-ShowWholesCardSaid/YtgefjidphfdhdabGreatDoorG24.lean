/-
  RnD, RnE, ShD, ShE, ShQ, ShR, ShS, ShT, GnA, InO, RdW, InP
-/
import Derived.Test.YtgefjidphfdhdabGreatDoorG23
namespace Go.Proofs.YtgefjidphfdhdabGreatDoor
open Go.KRun Go.Wd Go.Pt Go.Rn
set_option maxRecDepth 100000
/-! ### nearer -/
def clp (e : Int) : Int := if 2000 < (if -2000 > e then -2000 else e) then 2000 else (if -2000 > e then -2000 else e)
theorem clp_bd (e : Int) : -2000 ≤ clp e ∧ clp e ≤ 2000 := by unfold clp; split <;> split <;> omega
theorem nr_fits (n b : Bool) (x : W4) (e : Int) : Fits (reckon (tabOf Tryz.prog extY conN true) 300 38 [vN n e x b] []) (vN n (clp e) x b) [] := ⟨by kernel_rfl, by kernel_rfl, by kernel_rfl, by kernel_rfl⟩
def gNear : Ans := fun vals s =>
  match vals with
  | [v] =>
    match n7 v with
    | some (n, e, x, b) => some (vN n (clp e) x b, s, [])
    | none => none
  | _ => none
theorem gNear_ok : AnsOk 38 gNear := by
  intro vals s v s' lg h hl w
  unfold gNear at h
  split at h
  · split at h
    · rename_i n e x b hn
      cases h
      rw [n7_spec hn]
      exact fits_calls (tabY_ok conN_ok) (nr_fits n b x e) okNl (by rfl) (by rfl) w
    · cases h
  · cases h
/-! ### beyond -/
theorem by_t (n : Bool) (m : Int) : Fits (reckon (tabOf Tryz.prog extY conT true) 300 42 [.bool n, .int .i64 m] [tst true]) (.int .u64 9218868437227405312) [(upR m n true 3, true)] := ⟨by kernel_rfl, by kernel_rfl, by kernel_rfl, by kernel_rfl⟩
theorem by_f (n : Bool) (m : Int) : Fits (reckon (tabOf Tryz.prog extY conT true) 300 42 [.bool n, .int .i64 m] [tst false]) (.int .u64 9218868437227405311) [(upR m n true 3, false)] := ⟨by kernel_rfl, by kernel_rfl, by kernel_rfl, by kernel_rfl⟩
def gBey : Ans := fun vals s =>
  match vals with
  | [.bool n, .int .i64 m] => some (.int .u64 (bey m n), s, [])
  | _ => none
theorem gBey_ok : AnsOk 42 gBey := by
  intro vals s v s' lg h hl w
  unfold gBey at h
  split at h
  · rename_i n m
    cases h
    unfold bey
    by_cases hu : upR m n true 3 = true
    · rw [if_pos hu]
      exact fits_calls (tabY_ok conT_ok) (by_t n m) (okL1 hu) (by rfl) (by rfl) w
    · rw [if_neg hu]
      exact fits_calls (tabY_ok conT_ok) (by_f n m) (okL1 (by simpa using hu)) (by rfl) (by rfl) w
  · cases h
/-! ### isTiny -/
def m52 (k : Int) : Int := IntKind.i64.wrap (k - 52)
def tnQ (m : Int) (n : Bool) (x : W4) (b : Bool) (ex k : Int) : W4 := ofN (toQ m n (tw x b) (ex - 1) (m52 k))
def lgW (e : Int) (x : W4) : Int := IntKind.i64.wrap (IntKind.i64.wrap (e + lenI x) - 1)
theorem ti0 (n b : Bool) (x : W4) (ex k m : Int) : Fits (reckon (tabOf Tryz.prog extY conT true) 300 43 [vN n ex x b, .int .i64 k, .int .i64 m] [cmp true]) (.bool (decide (k < -1022))) [(k != -1023, true)] := ⟨by kernel_rfl, by kernel_rfl, by kernel_rfl, by kernel_rfl⟩
theorem ti1 (n b : Bool) (x : W4) (ex k m : Int) : Fits (reckon (tabOf Tryz.prog extY conT true) 300 43 [vN n ex x b, .int .i64 k, .int .i64 m] [cmp false, cmp true]) (.bool (decide (lgW (m52 k) (tnQ m n x b ex k) < -1022))) [(decide (tnQ m n x b ex k).ok, true), (decide (toQ m n (tw x b) (ex - 1) (m52 k) < 2 ^ 256), true), (okTm x ex (m52 k), true), (k != -1023, false)] := ⟨by kernel_rfl, by kernel_rfl, by kernel_rfl, by kernel_rfl⟩
def tnK (m : Int) (n : Bool) (T : Nat) (E k : Int) : Bool := if k = -1023 then decide (toQ m n T E (-1075) < 9007199254740992) else decide (k < -1022)
theorem lenI_nat (x : W4) : lenI x = (bitLen x.nat : Nat) := rfl
theorem len_lt53 {q : Nat} : bitLen q < 54 ↔ q < 9007199254740992 := by
  constructor
  · intro h
    have h1 := (bitLen_spec q).1
    have h2 := Nat.pow_le_pow_right (show 0 < 2 by omega) (show bitLen q ≤ 53 by omega)
    have e : (2 : Nat) ^ 53 = 9007199254740992 := rfl
    omega
  · intro h
    have := len_le (T := q) (k := 53) h
    omega
theorem tiny_calls (n b : Bool) (x : W4) (ex k m : Int) (h1 : x.ok ∧ -4000 ≤ ex ∧ ex ≤ 4000 ∧ -4000 ≤ (0 : Int) ∧ (0 : Int) ≤ 4000) (h2 : k = -1023 → toQ m n (tw x b) (ex - 1) (-1075) < 2 ^ 256) (w : World) : Calls Tryz.prog 43 #[vN n ex x b, .int .i64 k, .int .i64 m] w fun r w' => r = .returned (.bool (tnK m n (tw x b) (ex - 1) k)) ∧ Tidy w w' := by
  unfold tnK
  by_cases hk : k = -1023
  · rw [if_pos hk]
    have e0 : m52 k = -1075 := by rw [hk]; rfl
    have hq := h2 hk
    have hlen : bitLen (toQ m n (tw x b) (ex - 1) (-1075)) ≤ 256 := len_le hq
    have e1 : lgW (m52 k) (tnQ m n x b ex k) = -1076 + (bitLen (toQ m n (tw x b) (ex - 1) (-1075)) : Nat) := by
      unfold lgW tnQ
      rw [e0, lenI_nat, ofN_nat hq, wrapI' (n := -1075 + ((bitLen (toQ m n (tw x b) (ex - 1) (-1075)) : Nat) : Int)) ⟨by omega, by omega⟩, wrapI' ⟨by omega, by omega⟩]
      omega
    have h := fits_calls (tabY_ok conT_ok) (ti1 n b x ex k m) (okCons (decide_eq_true (ofN_ok _)) (okCons (by rw [e0]; exact decide_eq_true hq) (okCons (by rw [e0]; exact decide_eq_true ⟨h1.1, h1.2.1, h1.2.2.1, by omega, by omega⟩) (okL1 (by rw [hk]; rfl))))) (by rfl) (by rfl) w
    rw [e1] at h
    have e2 : decide (-1076 + ((bitLen (toQ m n (tw x b) (ex - 1) (-1075)) : Nat) : Int) < -1022) = decide (toQ m n (tw x b) (ex - 1) (-1075) < 9007199254740992) := by
      congr 1
      rw [← len_lt53]
      simp only [eq_iff_iff]
      omega
    rw [e2] at h
    exact h
  · rw [if_neg hk]
    exact fits_calls (tabY_ok conT_ok) (ti0 n b x ex k m) (okL1 (by simpa using hk)) (by rfl) (by rfl) w
def gTiny : Ans := fun vals s =>
  match vals with
  | [v, .int .i64 k, .int .i64 m] =>
    match n7 v, s with
    | some (n, ex, x, b), .inr (.inr (.inr (.inl d))) :: s' => some (.bool d, s', [(tnK m n (tw x b) (ex - 1) k, d), (decide (k = -1023 → toQ m n (tw x b) (ex - 1) (-1075) < 2 ^ 256), true), (okTm x ex 0, true)])
    | _, _ => none
  | _ => none
theorem gTiny_ok : AnsOk 43 gTiny := by
  intro vals s v s' lg h hl w
  unfold gTiny at h
  split at h
  · split at h
    · rename_i n ex x b d s2 hn
      cases h
      rw [okCs, okCs, okCs] at hl
      rw [n7_spec hn, ← hl.1]
      exact tiny_calls n b x ex _ _ (of_decide_eq_true hl.2.2.1) (of_decide_eq_true hl.2.1) w
    · cases h
  · cases h
def conTi : Con := alt 38 gNear (alt 42 gBey (alt 43 gTiny conT))
theorem conTi_ok : ConOk conTi := alt_ok Tryz.func38 rfl gNear_ok (alt_ok Tryz.func42 rfl gBey_ok (alt_ok Tryz.func43 rfl gTiny_ok conT_ok))
def lgR (ex : Int) (x : W4) : Int := lgW (clp ex) x
def e0 (ex : Int) (x : W4) : Int := if -1074 > m52 (lgR ex x) then -1074 else m52 (lgR ex x)
def qR (m : Int) (n : Bool) (x : W4) (b : Bool) (ex : Int) : Nat := toQ m n (tw x b) (clp ex - 1) (e0 ex x)
def oR (x : W4) (b : Bool) (ex : Int) : Bool := toL (tw x b) (clp ex - 1) (e0 ex x)
def pR (m : Int) (n : Bool) (x : W4) (b : Bool) (ex : Int) : Int := IntKind.u64.wrap (IntKind.u64.wrap (IntKind.u64.wrap (IntKind.i64.wrap (e0 ex x - -1074)) * 2 ^ min (Int.toNat 52) 64) + (ofN (qR m n x b ex)).a)
def sgR (n : Bool) (p : Int) : Int := match n with | true => bXor p 9223372036854775808 | false => p
def lTm (m : Int) (n : Bool) (x : W4) (b : Bool) (ex : Int) (o d : Bool) : Log := [(oR x b ex, o), (decide (qR m n x b ex < 2 ^ 256), true), (okTm x (clp ex) (e0 ex x), true), (decide x.ok, true), (eqW x ⟨0, 0, 0, 0⟩, d)]
def lBig (m : Int) (n : Bool) (x : W4) (b : Bool) (ex : Int) (d : Bool) : Bool × Bool := (decide (pR m n x b ex ≥ 9218868437227405312), d)
def l52 : Bool × Bool := (decide ((52 : Int) < 0), false)
def rdT (p f : Int) : Value := .tuple #[.int .u64 p, .int .u8 f]
theorem rd_zero (n : Bool) (x : W4) (ex m : Int) : Fits (reckon (tabOf Tryz.prog extY conTi true) 300 17 [vN n ex x false, .int .i64 m] [sam true]) (rdT (sgR n 0) 0) [(eqW x ⟨0, 0, 0, 0⟩, true)] := by
  cases n <;> exact ⟨by kernel_rfl, by kernel_rfl, by kernel_rfl, by kernel_rfl⟩
theorem rd_big (n b o : Bool) (x : W4) (ex m : Int) : Fits (reckon (tabOf Tryz.prog extY conTi true) 300 17 [vN n ex x b, .int .i64 m] [sam false, cmp true, cmp o, cmp true]) (rdT (sgR n (bey m n)) 20) (lBig m n x b ex true :: l52 :: lTm m n x b ex o false) := by
  cases n <;> cases o <;> exact ⟨by kernel_rfl, by kernel_rfl, by kernel_rfl, by kernel_rfl⟩
theorem rd_big' (n o : Bool) (x : W4) (ex m : Int) : Fits (reckon (tabOf Tryz.prog extY conTi true) 300 17 [vN n ex x true, .int .i64 m] [sam true, cmp true, cmp o, cmp true]) (rdT (sgR n (bey m n)) 20) (lBig m n x true ex true :: l52 :: lTm m n x true ex o true) := by
  cases n <;> cases o <;> exact ⟨by kernel_rfl, by kernel_rfl, by kernel_rfl, by kernel_rfl⟩
theorem rd_just (n b : Bool) (x : W4) (ex m : Int) : Fits (reckon (tabOf Tryz.prog extY conTi true) 300 17 [vN n ex x b, .int .i64 m] [sam false, cmp true, cmp false, cmp false]) (rdT (sgR n (pR m n x b ex)) 0) (lBig m n x b ex false :: l52 :: lTm m n x b ex false false) := by
  cases n <;> exact ⟨by kernel_rfl, by kernel_rfl, by kernel_rfl, by kernel_rfl⟩
theorem rd_just' (n : Bool) (x : W4) (ex m : Int) : Fits (reckon (tabOf Tryz.prog extY conTi true) 300 17 [vN n ex x true, .int .i64 m] [sam true, cmp true, cmp false, cmp false]) (rdT (sgR n (pR m n x true ex)) 0) (lBig m n x true ex false :: l52 :: lTm m n x true ex false true) := by
  cases n <;> exact ⟨by kernel_rfl, by kernel_rfl, by kernel_rfl, by kernel_rfl⟩
def fgT (t : Bool) : Int := match t with | true => 24 | false => 16
def lTn (m : Int) (n : Bool) (x : W4) (b : Bool) (ex : Int) (t : Bool) (l : Log) : Log := (tnK m n (tw x b) (clp ex - 1) (lgR ex x), t) :: (decide (lgR ex x = -1023 → toQ m n (tw x b) (clp ex - 1) (-1075) < 2 ^ 256), true) :: (okTm x (clp ex) 0, true) :: l
theorem rd_near (n b t : Bool) (x : W4) (ex m : Int) : Fits (reckon (tabOf Tryz.prog extY conTi true) 300 17 [vN n ex x b, .int .i64 m] [sam false, cmp true, cmp true, cmp false, cmp t]) (rdT (sgR n (pR m n x b ex)) (fgT t)) (lTn m n x b ex t (lBig m n x b ex false :: l52 :: lTm m n x b ex true false)) := by
  cases n <;> cases t <;> exact ⟨by kernel_rfl, by kernel_rfl, by kernel_rfl, by kernel_rfl⟩
theorem rd_near' (n t : Bool) (x : W4) (ex m : Int) : Fits (reckon (tabOf Tryz.prog extY conTi true) 300 17 [vN n ex x true, .int .i64 m] [sam true, cmp true, cmp true, cmp false, cmp t]) (rdT (sgR n (pR m n x true ex)) (fgT t)) (lTn m n x true ex t (lBig m n x true ex false :: l52 :: lTm m n x true ex true true)) := by
  cases n <;> cases t <;> exact ⟨by kernel_rfl, by kernel_rfl, by kernel_rfl, by kernel_rfl⟩
/-! ### its numbers -/
theorem tw_len {x : W4} {b : Bool} (h : tw x b ≠ 0) : bitLen (tw x b) = bitLen x.nat + 1 := by
  have hd : tw x b / 2 ^ 1 = x.nat := by
    have := tw_div x b 0
    simpa using this
  by_cases h0 : x.nat = 0
  · have : tw x b = 1 := by
      have e : tw x b / 2 = x.nat := by simpa using hd
      omega
    rw [this, h0]
    rfl
  · rw [bitLen_shift (tw x b) 1 (by rw [hd]; exact h0), hd]
    omega
theorem len256 {x : W4} (hx : x.ok) : bitLen x.nat ≤ 256 := len_le (W4.nat_lt hx)
theorem lgR_eq {x : W4} {b : Bool} {ex : Int} (hx : x.ok) (h : tw x b ≠ 0) : lgR ex x = lgN (tw x b) (clp ex - 1) := by
  have h1 := clp_bd ex
  have h2 := len256 hx
  unfold lgR lgW lgN
  rw [lenI_nat, tw_len h, wrapI' (n := clp ex + ((bitLen x.nat : Nat) : Int)) ⟨by omega, by omega⟩, wrapI' ⟨by omega, by omega⟩]
  omega
theorem lgN_bd {x : W4} {b : Bool} {ex : Int} (hx : x.ok) (h : tw x b ≠ 0) : -2002 ≤ lgN (tw x b) (clp ex - 1) ∧ lgN (tw x b) (clp ex - 1) ≤ 2300 := by
  have h1 := clp_bd ex
  have h2 := len256 hx
  unfold lgN
  rw [tw_len h]
  omega
theorem e0_eq {x : W4} {b : Bool} {ex : Int} (hx : x.ok) (h : tw x b ≠ 0) : e0 ex x = lowE (tw x b) (clp ex - 1) := by
  have hb := lgN_bd (ex := ex) hx h
  unfold e0 m52 lowE
  rw [lgR_eq hx h, wrapI' ⟨by omega, by omega⟩]
  split <;> split <;> omega
theorem lowE_bd {x : W4} {b : Bool} {ex : Int} (hx : x.ok) (h : tw x b ≠ 0) : -1074 ≤ lowE (tw x b) (clp ex - 1) ∧ lowE (tw x b) (clp ex - 1) ≤ 2300 := by
  have hb := lgN_bd (ex := ex) hx h
  unfold lowE
  split <;> omega
theorem ofN_a {q : Nat} (h : q < 18446744073709551616) : (ofN q).a = (q : Int) := by unfold ofN W4.of; dsimp only; omega
theorem pR_eq {m : Int} {n : Bool} {x : W4} {b : Bool} {ex : Int} (hx : x.ok) (h : tw x b ≠ 0) : pR m n x b ex = p0 m n (tw x b) (clp ex - 1) ∧ p0 m n (tw x b) (clp ex - 1) < 18446744073709551616 := by
  have hb := lowE_bd (ex := ex) hx h
  have hq := low_hi m n (tw x b) (clp ex - 1)
  have e1 : ((2 : Int) ^ min (Int.toNat 52) 64) = 4503599627370496 := by rfl
  unfold pR qR p0
  rw [e0_eq hx h, ofN_a (by omega), e1, wrapI' ⟨by omega, by omega⟩, wrapU' (n := lowE (tw x b) (clp ex - 1) - -1074) ⟨by omega, by omega⟩, wrapU' (n := (lowE (tw x b) (clp ex - 1) - -1074) * 4503599627370496) ⟨by omega, by omega⟩, wrapU' ⟨by omega, by omega⟩]
  omega
def sS (n : Bool) (p : Int) : Int := if n = true then 9223372036854775808 + p else p
theorem sgR_eq {n : Bool} {p : Int} (h0 : 0 ≤ p) (h1 : p ≤ 9218868437227405312) : sgR n p = sS n p := by
  cases n
  · rfl
  · simp only [sgR, sS, if_true]
    rw [bXor_sign ⟨by omega, by omega⟩]
    omega
theorem tnK_eq (m : Int) (n : Bool) (T : Nat) (E : Int) : tnK m n T E (lgN T E) = tiny m n T E := rfl
/-- what Round answers -/
def rdV (m : Int) (n : Bool) (T : Nat) (E : Int) : Value := rdT (sS n (rnP m n T E)) (rnF m n T E)
theorem round_calls (n b : Bool) (x : W4) (ex m : Int) (hx : x.ok) (w : World) : Calls Tryz.prog 17 #[vN n ex x b, .int .i64 m] w fun r w' => r = .returned (rdV m n (tw x b) (clp ex - 1)) ∧ Tidy w w' := by
  have hv : ([vN n ex x b, .int .i64 m].all (lt 0)) = true := rfl
  unfold rdV
  by_cases hz : tw x b = 0
  · have h1 := (tw_zero hx).1 hz
    rw [Bool.and_eq_true] at h1
    have hb : b = false := by simpa using h1.2
    subst hb
    have h := fits_calls (tabY_ok conTi_ok) (rd_zero n x ex m) (okL1 h1.1) hv (by rfl) w
    rw [sgR_eq (by omega) (by omega)] at h
    unfold rnP rnF
    rw [if_pos hz, if_pos hz]
    exact h
  · obtain ⟨ep, hp⟩ := pR_eq (m := m) (n := n) (ex := ex) hx hz
    have hbd := clp_bd ex
    have hel := lowE_bd (ex := ex) hx hz
    have hq := low_hi m n (tw x b) (clp ex - 1)
    have ee := e0_eq (ex := ex) hx hz
    have el := lgR_eq (ex := ex) hx hz
    have hp0 := p0_nonneg m n (tw x b) (clp ex - 1)
    have e256 : (2 : Nat) ^ 256 = 115792089237316195423570985008687907853269984665640564039457584007913129639936 := rfl
    have kq : decide (qR m n x b ex < 2 ^ 256) = true := decide_eq_true (by unfold qR; rw [ee]; omega)
    have kt : okTm x (clp ex) (e0 ex x) = true := decide_eq_true ⟨hx, by omega, by omega, by omega, by omega⟩
    have kt0 : okTm x (clp ex) 0 = true := decide_eq_true ⟨hx, by omega, by omega, by omega, by omega⟩
    have kx : decide x.ok = true := decide_eq_true hx
    have ko : oR x b ex = toL (tw x b) (clp ex - 1) (lowE (tw x b) (clp ex - 1)) := by unfold oR; rw [ee]
    have kn : decide (lgR ex x = -1023 → toQ m n (tw x b) (clp ex - 1) (-1075) < 2 ^ 256) = true := decide_eq_true fun hl => by
      rw [el] at hl
      have : toQ m n (tw x b) (clp ex - 1) (-1075) ≤ 2 ^ 53 := toQ_le (by unfold lgN at hl; omega)
      have e53 : (2 : Nat) ^ 53 = 9007199254740992 := rfl
      omega
    have key : ∃ d, eqW x ⟨0, 0, 0, 0⟩ = d ∧ (d = false ∨ (d = true ∧ b = true)) := by
      refine ⟨_, rfl, ?_⟩
      cases he : eqW x ⟨0, 0, 0, 0⟩
      · exact .inl rfl
      · right
        refine ⟨rfl, ?_⟩
        cases hb : b
        · exact absurd ((tw_zero hx).2 (by rw [he, hb]; rfl)) hz
        · rfl
    obtain ⟨d, hd, hdb⟩ := key
    have lt5 : ∀ o, oR x b ex = o → okLog (lTm m n x b ex o d) := fun o ho => okCons ho (okCons kq (okCons kt (okCons kx (okL1 hd))))
    unfold rnP rnF
    rw [if_neg hz, if_neg hz]
    by_cases hbig : 9218868437227405312 ≤ p0 m n (tw x b) (clp ex - 1)
    · rw [if_pos hbig, if_pos hbig]
      have hb2 := bey_or m n
      have hs : sgR n (bey m n) = sS n (bey m n) := sgR_eq (by omega) (by omega)
      rw [← hs]
      have lB : decide (pR m n x b ex ≥ 9218868437227405312) = true := decide_eq_true (by rw [ep]; exact hbig)
      rcases hdb with rfl | ⟨rfl, rfl⟩
      · exact fits_calls (tabY_ok conTi_ok) (rd_big n b (oR x b ex) x ex m) (okCons lB (okCons rfl (lt5 _ rfl))) hv (by rfl) w
      · exact fits_calls (tabY_ok conTi_ok) (rd_big' n (oR x true ex) x ex m) (okCons lB (okCons rfl (lt5 _ rfl))) hv (by rfl) w
    · rw [if_neg hbig, if_neg hbig]
      have hs : sgR n (pR m n x b ex) = sS n (p0 m n (tw x b) (clp ex - 1)) := by rw [ep]; exact sgR_eq hp0 (by omega)
      rw [← hs]
      have lB : decide (pR m n x b ex ≥ 9218868437227405312) = false := decide_eq_false (by rw [ep]; exact hbig)
      by_cases hl : toL (tw x b) (clp ex - 1) (lowE (tw x b) (clp ex - 1)) = true
      · rw [if_pos hl]
        have ht : tnK m n (tw x b) (clp ex - 1) (lgR ex x) = tiny m n (tw x b) (clp ex - 1) := by rw [el, tnK_eq]
        have ef : (if tiny m n (tw x b) (clp ex - 1) = true then (24 : Int) else 16) = fgT (tiny m n (tw x b) (clp ex - 1)) := by
          cases tiny m n (tw x b) (clp ex - 1) <;> rfl
        rw [ef]
        rcases hdb with rfl | ⟨rfl, rfl⟩
        · exact fits_calls (tabY_ok conTi_ok) (rd_near n b (tiny m n (tw x b) (clp ex - 1)) x ex m) (okCons ht (okCons kn (okCons kt0 (okCons lB (okCons rfl (lt5 _ (ko.trans hl))))))) hv (by rfl) w
        · exact fits_calls (tabY_ok conTi_ok) (rd_near' n (tiny m n (tw x true) (clp ex - 1)) x ex m) (okCons ht (okCons kn (okCons kt0 (okCons lB (okCons rfl (lt5 _ (ko.trans hl))))))) hv (by rfl) w
      · rw [if_neg hl]
        have hl' := ko.trans (by simpa using hl)
        rcases hdb with rfl | ⟨rfl, rfl⟩
        · exact fits_calls (tabY_ok conTi_ok) (rd_just n b x ex m) (okCons lB (okCons rfl (lt5 _ hl'))) hv (by rfl) w
        · exact fits_calls (tabY_ok conTi_ok) (rd_just' n x ex m) (okCons lB (okCons rfl (lt5 _ hl'))) hv (by rfl) w
def gRd : Ans := fun vals s =>
  match vals with
  | [v, .int .i64 m] =>
    match n7 v with
    | some (n, ex, x, b) => some (rdV m n (tw x b) (clp ex - 1), s, [(decide x.ok, true)])
    | none => none
  | _ => none
theorem gRd_ok : AnsOk 17 gRd := by
  intro vals s v s' lg h hl w
  unfold gRd at h
  split at h
  · split at h
    · rename_i n ex x b hn
      cases h
      rw [n7_spec hn]
      exact round_calls n b x ex _ (of_decide_eq_true (hl _ (List.mem_singleton.2 rfl))) w
    · cases h
  · cases h
/-! ### sure -/
end Go.Proofs.YtgefjidphfdhdabGreatDoor
namespace Go.Proofs.YtgefjidphfdhdabGreatDoor
open Go.KRun Go.Nt Go.Rd Go.Pt
set_option maxRecDepth 100000
def fr14 (p : Int) : Int := (sg p).tmod 4503599627370496
def hd14 (p : Int) : List UInt8 := (hxW (fr14 p)).data.toList.drop 3
end Go.Proofs.YtgefjidphfdhdabGreatDoor
namespace Go.Proofs.YtgefjidphfdhdabGreatDoor
open Go.KRun Go.Nt Go.Rd Go.Pt
set_option maxRecDepth 100000
set_option linter.unusedSimpArgs false
/-- the text of base 16 -/
def hx14 (p : Int) : List UInt8 := if spK p ≠ 0 then spL (spK p) else if cl p = 0 then (if sgn p = true then [45] else []) ++ [48, 120, 48, 112, 48] else if cl p = 1 then hexT (sgn p) 48 (trR (hd14 p)) (-1022) else hexT (sgn p) 49 (trR (hd14 p)) (xp p + 52)
end Go.Proofs.YtgefjidphfdhdabGreatDoor
namespace Go.Proofs.YtgefjidphfdhdabGreatDoor
open Go.KRun Go.Nt Go.Rd Go.Wd Go.Pt
set_option maxRecDepth 100000
/-! ### digits as a text -/
def conDt : Con := alt 21 gSgn (alt 22 gPtd conN)
theorem conDt_ok : ConOk conDt := alt_ok Tryz.func21 rfl gSgn_ok (alt_ok Tryz.func22 rfl gPtd_ok conN_ok)
def hcDt : Hc := altH 23 (gT gIto) hcN
theorem hcDt_ok : HcOk hcDt := altH_ok Tryz.func23 rfl (gT_ok gIto_ok) hcN_ok
theorem dt14 (b : Bool) (D : List UInt8) (e : Int) : Fits (reckonAt (tabH Tryz.prog extY conDt hcDt) hT0 200 11 [.bool b, vDc D e] [sam true, sam true, sam true]) (bR (((mnL b ++ ptL D) ++ [101]) ++ expL e)) [(decide (((mnL b ++ ptL D) ++ [101]).length + (expL e).length ≤ 9223372036854775807), true), (decide (e.natAbs ≤ 2000000), true), (decide ((mnL b ++ ptL D).length + 1 ≤ 9223372036854775807), true), (decide ((mnL b).length + (ptL D).length ≤ 9223372036854775807), true), (decide (1 ≤ D.length ∧ D.length ≤ 100000), true)] := ⟨by kernel_rfl, by kernel_rfl, by kernel_rfl, by kernel_rfl⟩
theorem ptL_len (l : List UInt8) : (ptL l).length ≤ l.length + 1 := by
  unfold ptL
  split
  · simp
  · simp
  · simp only [List.length_cons]; omega
theorem tx_is (b : Bool) (D : List UInt8) (e : Int) : ((mnL b ++ ptL D) ++ [101]) ++ expL e = txL b D e := by
  unfold txL mnL ptL
  simp only [List.append_assoc, List.singleton_append]
  rfl
def gDtT : Ans := fun vals s =>
  match vals with
  | [.bool b, v] =>
    match dc2 v with
    | some (D, e) => some (bR (txL b D.data.toList e), s, [(decide (1 ≤ D.data.toList.length ∧ D.data.toList.length ≤ 100000 ∧ e.natAbs ≤ 2000000), true)])
    | none => none
  | _ => none
theorem gDtT_ok : AnsTOk 11 gDtT := by
  intro vals s v s' lg h hl w hk
  unfold gDtT at h
  split at h
  · split at h
    · rename_i b v0 o D e hv
      rw [dc2_spec hv]
      cases h
      obtain ⟨h1, h2, h3⟩ := of_decide_eq_true (hl _ (List.mem_singleton.2 rfl))
      have f := dt14 b D.data.toList e
      rw [tx_is] at f
      have l1 := mnL_len b
      have l2 := ptL_len D.data.toList
      have l3 := expL_len e
      exact fitsT (tabH_ok conDt_ok hcDt_ok) f (okCons (decide_eq_true (by rw [List.length_append, List.length_append, List.length_singleton]; omega)) (okCons (decide_eq_true h3) (okCons (decide_eq_true (by rw [List.length_append]; omega)) (okCons (decide_eq_true (by omega)) (okL1 (decide_eq_true ⟨h1, h2⟩)))))) (by rfl) (by rfl) hk
    · cases h
  · cases h
/-! ### the shortest digits, the pattern told ahead -/
def finB (p : Int) : Bool := decide (ex p ≠ 2047 ∧ (sg p).toNat ≠ 0)
theorem fin14_B {p : Int} (h : finB p = true) : Fin14 p := by
  obtain ⟨h1, h2⟩ := of_decide_eq_true h
  have a := Go.Rn.xp_bd p
  have b := Go.Rn.sg_lt p
  exact ⟨h1, h2, a.1, a.2, by omega⟩
def gSrT : Ans := fun vals s =>
  match vals, s with
  | [v], .inr (.inl p) :: s' =>
    match vP4 v with
    | some (m, c, e, q) => some (vDc (sdD p) (sdE p), s', [(m == sgn p, true), (decide (c = cl p ∧ e = xp p ∧ q = sg p), true), (finB p, true)])
    | none => none
  | _, _ => none
theorem gSrT_ok : AnsTOk 33 gSrT := by
  intro vals s v s' lg h hl w hk
  unfold gSrT at h
  split at h
  · split at h
    · rename_i v0 p s2 o m c e q hv
      rw [vP4_spec hv]
      cases h
      have l1 : (m == sgn p) = true := hl _ List.mem_cons_self
      obtain ⟨l2, l3, l4⟩ := of_decide_eq_true (hl _ (List.mem_cons_of_mem _ List.mem_cons_self))
      have l5 : finB p = true := hl _ (List.mem_cons_of_mem _ (List.mem_cons_of_mem _ (List.mem_singleton.2 rfl)))
      rw [eq_of_beq l1, l2, l3, l4]
      exact sr_calls (fin14_B l5) w hk
    · cases h
  · cases h
theorem take14_ok : AnsOk 8 (gU vT) := gU_ok take_calls
def conSS : Con := alt 8 (gU vT) (alt 19 (gU fun p => .int .i64 (cl p)) (alt 10 gNam (alt 14 gEx14 (alt 13 gRnd14 (alt 24 gRep conN)))))
theorem conSS_ok : ConOk conSS := alt_ok Tryz.func8 rfl take14_ok (alt_ok Tryz.func19 rfl cls_ok (alt_ok Tryz.func10 rfl gNam_ok (alt_ok Tryz.func14 rfl gEx14_ok (alt_ok Tryz.func13 rfl gRnd14_ok (alt_ok Tryz.func24 rfl gRep_ok conN_ok)))))
def hcSS : Hc := altH 11 (gT gDtT) (altH 33 (gT gSrT) hcN)
theorem hcSS_ok : HcOk hcSS := altH_ok Tryz.func11 rfl (gT_ok gDtT_ok) (altH_ok Tryz.func33 rfl (gT_ok gSrT_ok) hcN_ok)
theorem tabSS : TabOk (tabH Tryz.prog extY conSS hcSS) := tabH_ok conSS_ok hcSS_ok
/-! ### Short -/
/-- the shortest text of any pattern -/
def shT (p : Int) : List UInt8 := if spK p ≠ 0 then spL (spK p) else if cl p = 0 then txL (sgn p) [48] 0 else shS p
theorem so14_n (p : Int) : Fits (reckonAt (tabH Tryz.prog extY conSS hcSS) hT0 200 15 [.int .u64 p] [cmp false]) (bR (nmL (sgn p) (cl p))) [(decide (cl p ≤ 2), false), (decide (U p), true), (decide (U p), true)] := ⟨by kernel_rfl, by kernel_rfl, by kernel_rfl, by kernel_rfl⟩
theorem so14_z (p : Int) : Fits (reckonAt (tabH Tryz.prog extY conSS hcSS) hT0 200 15 [.int .u64 p] [cmp true, cmp true]) (bR (txL (sgn p) [48] 0)) [(true, true), (cl p == 0, true), (decide (cl p ≤ 2), true), (decide (U p), true), (decide (U p), true)] := ⟨by kernel_rfl, by kernel_rfl, by kernel_rfl, by kernel_rfl⟩
theorem so14_f (p : Int) : Fits (reckonAt (tabH Tryz.prog extY conSS hcSS) hT0 200 15 [.int .u64 p] [cmp true, cmp false, num p]) (bR (txL (sgn p) (sdD p) (sdE p))) [(decide (1 ≤ (sdD p).length ∧ (sdD p).length ≤ 100000 ∧ (sdE p).natAbs ≤ 2000000), true), (sgn p == sgn p, true), (decide (cl p = cl p ∧ xp p = xp p ∧ sg p = sg p), true), (finB p, true), (cl p == 0, false), (decide (cl p ≤ 2), true), (decide (U p), true), (decide (U p), true)] := ⟨by kernel_rfl, by kernel_rfl, by kernel_rfl, by kernel_rfl⟩
theorem nm_sp {p : Int} (hp : U p) (h : ¬ cl p ≤ 2) : spK p ≠ 0 ∧ nmL (sgn p) (cl p) = spL (spK p) := by
  have e := of_parts hp
  have h1 := ex_lt p
  have h2 := fr_lt p
  unfold spK nmL
  by_cases h3 : 3 < cl p
  · rw [if_pos h3, if_neg (by omega)]
    exact ⟨by decide, rfl⟩
  · have hc : cl p = 3 := by omega
    have hx : ex p = 2047 ∧ fr p = 0 := by
      unfold cl at hc
      split at hc
      · split at hc <;> omega
      · split at hc
        · split at hc
          · constructor <;> assumption
          · split at hc <;> omega
        · omega
    rw [if_neg h3, if_pos hc]
    rw [hx.1, hx.2] at e
    cases hs : sgn p with
    | true =>
      rw [hs, if_pos rfl] at e
      rw [if_neg (by omega), if_pos (by omega)]
      exact ⟨by decide, rfl⟩
    | false =>
      rw [hs, if_neg (by decide)] at e
      rw [if_pos (by omega)]
      exact ⟨by decide, rfl⟩
theorem fin_sp {p : Int} (h : cl p ≤ 2) : spK p = 0 := by
  have : ∀ q : Int, (q = 9218868437227405312 ∨ q = 18442240474082181120) → cl q = 3 := by
    rintro q (rfl | rfl) <;> decide
  unfold spK
  rw [if_neg (by omega), if_neg (fun c => by have := this p (.inl c); omega), if_neg (fun c => by have := this p (.inr c); omega)]
theorem fin_of {p : Int} (h : cl p ≤ 2) (h0 : cl p ≠ 0) : finB p = true := by
  have h1 := fr_lt p
  refine decide_eq_true ?_
  unfold cl at h h0
  unfold sg
  by_cases c1 : ex p = 0
  · rw [if_pos c1] at h h0 ⊢
    by_cases c2 : fr p = 0
    · rw [if_pos c2] at h0; exact absurd rfl h0
    · omega
  · rw [if_neg c1] at h h0 ⊢
    by_cases c2 : ex p = 2047
    · rw [if_pos c2] at h
      split at h
      · omega
      · split at h <;> omega
    · rw [if_neg c2]
      omega
theorem sd_bd {p : Int} (h : Fin14 p) : 1 ≤ (sdD p).length ∧ (sdD p).length ≤ 100000 ∧ (sdE p).natAbs ≤ 2000000 := by
  obtain ⟨_, _, j1, j2⟩ := at_bd h
  have l1 := dcL_len20 (shV p)
  have l2 := trR_len (dcL (shV p))
  refine ⟨?_, by unfold sdD; omega, by unfold sdE; omega⟩
  obtain ⟨_, b, _⟩ := short_is h
  obtain ⟨b1, b2, b3⟩ := two_bd h b.1 b.2
  have t19 := ten_le19 h
  have hp : 0 < 10 ^ (atL p - 1) := Nat.pow_pos (by omega)
  have hv : 0 < shV p ∧ shV p < 18446744073709551616 := by unfold shV; split <;> omega
  rcases Nat.eq_zero_or_pos (sdD p).length with c | c
  · exfalso
    have c' : trR (dcL (shV p)) = [] := List.length_eq_zero_iff.1 c
    have e := nmB_trR (b := 10) (dcL (shV p))
    rw [c'] at e
    have e2 : nmB 10 (dcL (shV p)) = shV p := decF_num (dcL_lt hv.2)
    rw [e2] at e
    have e3 : nmB 10 [] = 0 := rfl
    rw [e3, Nat.zero_mul] at e
    omega
  · exact c
theorem so_calls (p : Int) (hp : U p) (w : World) (hk : knT w) : Calls Tryz.prog 15 #[.int .u64 p] w fun e w' => e = .returned (bR (shT p)) ∧ Tidy w w' := by
  have hu : decide (U p) = true := decide_eq_true hp
  unfold shT
  by_cases h2 : cl p ≤ 2
  · rw [if_neg (fun c => c (fin_sp h2))]
    by_cases h0 : cl p = 0
    · rw [if_pos h0]
      exact fitsT tabSS (so14_z p) (okCons rfl (okCons (beqR_t h0) (okCons (decide_eq_true h2) (okCons hu (okL1 hu))))) (by rfl) (by rfl) hk
    · rw [if_neg h0]
      have hf := fin_of h2 h0
      have ht := shV_text (fin14_B hf)
      have f := so14_f p
      have et : txL (sgn p) (sdD p) (sdE p) = shS p := ht
      rw [et] at f
      exact fitsT tabSS f (okCons (decide_eq_true (sd_bd (fin14_B hf))) (okCons (by simp) (okCons (decide_eq_true ⟨rfl, rfl, rfl⟩) (okCons hf (okCons (beqR_f h0) (okCons (decide_eq_true h2) (okCons hu (okL1 hu)))))))) (by rfl) (by rfl) hk
  · obtain ⟨a, b⟩ := nm_sp hp h2
    rw [if_pos a, ← b]
    exact fitsT tabSS (so14_n p) (okCons (decide_eq_false h2) (okCons hu (okL1 hu))) (by rfl) (by rfl) hk
def errV14 (k : Int) : Value := .iface 34 (.int .i64 k)
theorem dg14_a (p n m : Int) : Fits (reckonAt (tabH Tryz.prog extY conSS hcSS) hT0 200 5 [.int .u64 p, .int .i64 n, .int .i64 m] [cmp true]) (.tuple #[bR [], errV14 1]) [(decide (n < 1), true)] := ⟨by kernel_rfl, by kernel_rfl, by kernel_rfl, by kernel_rfl⟩
theorem dg14_b (p n m : Int) : Fits (reckonAt (tabH Tryz.prog extY conSS hcSS) hT0 200 5 [.int .u64 p, .int .i64 n, .int .i64 m] [cmp false, cmp true]) (.tuple #[bR [], errV14 1]) [(decide (n > 1000), true), (decide (n < 1), false)] := ⟨by kernel_rfl, by kernel_rfl, by kernel_rfl, by kernel_rfl⟩
theorem dg14_n (p n m : Int) : Fits (reckonAt (tabH Tryz.prog extY conSS hcSS) hT0 200 5 [.int .u64 p, .int .i64 n, .int .i64 m] [cmp false, cmp false, cmp false]) (.tuple #[bR (nmL (sgn p) (cl p)), .nilIface]) [(decide (cl p ≤ 2), false), (decide (U p), true), (decide (U p), true), (decide (n > 1000), false), (decide (n < 1), false)] := ⟨by kernel_rfl, by kernel_rfl, by kernel_rfl, by kernel_rfl⟩
theorem dg14_z (p n m : Int) : Fits (reckonAt (tabH Tryz.prog extY conSS hcSS) hT0 200 5 [.int .u64 p, .int .i64 n, .int .i64 m] [cmp false, cmp false, cmp true, cmp true]) (.tuple #[bR (txL (sgn p) (List.replicate n.toNat 48) 0), .nilIface]) [(decide (1 ≤ (List.replicate n.toNat (48 : UInt8)).length ∧ (List.replicate n.toNat (48 : UInt8)).length ≤ 100000 ∧ Int.natAbs 0 ≤ 2000000), true), (decide (0 ≤ n ∧ n ≤ 100000), true), (cl p == 0, true), (decide (cl p ≤ 2), true), (decide (U p), true), (decide (U p), true), (decide (n > 1000), false), (decide (n < 1), false)] := ⟨by kernel_rfl, by kernel_rfl, by kernel_rfl, by kernel_rfl⟩
def aD (p : Int) : List UInt8 := decS (wAll (sg p).toNat (xp p))
def aE (p : Int) : Int := ((aD p).length : Int) - 1 - (wzN (xp p) : Nat)
def aR (p n m : Int) : List UInt8 × Int := rnD (aD p) (aE p) n.toNat (sgn p) m
theorem dg14_f (p n m : Int) : Fits (reckonAt (tabH Tryz.prog extY conSS hcSS) hT0 200 5 [.int .u64 p, .int .i64 n, .int .i64 m] [cmp false, cmp false, cmp true, cmp false]) (.tuple #[bR (txL (sgn p) (aR p n m).1 (aR p n m).2), .nilIface]) [(decide (1 ≤ (aR p n m).1.length ∧ (aR p n m).1.length ≤ 100000 ∧ (aR p n m).2.natAbs ≤ 2000000), true), (allB 10 (aD p), true), (decide ((1 ≤ (aD p).length ∧ (aD p).length ≤ 90000) ∧ (1 ≤ n ∧ n ≤ 1000) ∧ (-100000 ≤ aE p ∧ aE p ≤ 100000)), true), (decide (1 ≤ sg p ∧ sg p < 9007199254740992 ∧ -1074 ≤ xp p ∧ xp p ≤ 972), true), (cl p == 0, false), (decide (cl p ≤ 2), true), (decide (U p), true), (decide (U p), true), (decide (n > 1000), false), (decide (n < 1), false)] := ⟨by kernel_rfl, by kernel_rfl, by kernel_rfl, by kernel_rfl⟩
/-- the text of n digits of any pattern -/
def dgT14 (p : Int) (n : Nat) (m : Int) : List UInt8 := if spK p ≠ 0 then spL (spK p) else if cl p = 0 then txL (sgn p) (List.replicate n 48) 0 else dgS14 p n m
theorem rnD_bd {D : List UInt8} {e : Int} {n : Nat} {mn : Bool} {m : Int} : (rnD D e n mn m).1.length = n ∧ e ≤ (rnD D e n mn m).2 ∧ (rnD D e n mn m).2 ≤ e + 1 := by
  unfold rnD
  by_cases h : D.length ≤ n
  · rw [if_pos h]
    refine ⟨?_, Int.le_refl _, by omega⟩
    show (D ++ List.replicate (n - D.length) 48).length = n
    rw [List.length_append, List.length_replicate]
    omega
  · rw [if_neg h]
    have lt : (D.take n).length = n := by rw [List.length_take]; omega
    split
    · obtain ⟨n1, n2⟩ := nxt_len (l := D.take n)
      refine ⟨?_, ?_, ?_⟩
      · show ((nxt14 (D.take n)).take n).length = n
        rw [List.length_take]
        omega
      · show e ≤ e + ((nxt14 (D.take n)).length : Nat) - n
        omega
      · show e + ((nxt14 (D.take n)).length : Nat) - n ≤ e + 1
        omega
    · refine ⟨?_, ?_, ?_⟩
      · show ((D.take n).take n).length = n
        rw [List.length_take]
        omega
      · show e ≤ e + ((D.take n).length : Nat) - n
        omega
      · show e + ((D.take n).length : Nat) - n ≤ e + 1
        omega
theorem dgT_calls (p : Int) (hp : U p) (n : Nat) (hn : 1 ≤ n ∧ n ≤ 1000) (m : Int) (w : World) (hk : knT w) : Calls Tryz.prog 5 #[.int .u64 p, .int .i64 n, .int .i64 m] w fun e w' => e = .returned (.tuple #[bR (dgT14 p n m), .nilIface]) ∧ Tidy w w' := by
  have hu : decide (U p) = true := decide_eq_true hp
  have k0 : okLog [(decide (((n : Nat) : Int) > 1000), false), (decide (((n : Nat) : Int) < 1), false)] := okCons (decide_eq_false (by omega)) (okL1 (decide_eq_false (by omega)))
  have k0 := okCons hu (okCons hu k0)
  unfold dgT14
  by_cases h2 : cl p ≤ 2
  · have k0 := okCons (show decide (cl p ≤ 2) = true from decide_eq_true h2) k0
    rw [if_neg (fun c => c (fin_sp h2))]
    by_cases h0 : cl p = 0
    · rw [if_pos h0]
      have f := dg14_z p n m
      rw [Int.toNat_natCast] at f
      exact fitsT tabSS f (okCons (decide_eq_true ⟨by rw [List.length_replicate]; omega, by rw [List.length_replicate]; omega, by decide⟩) (okCons (decide_eq_true (by omega)) (okCons (beqR_t h0) k0))) (by rfl) (by rfl) hk
    · rw [if_neg h0]
      have hf := fin14_B (fin_of h2 h0)
      have hW := all_ne (xp p) hf.ne
      obtain ⟨l1, l2, l3⟩ := decS_len14 hW
      have hT := rnD_is hf hn.1 m l1 l2 l3
      rw [← decS_decF hW] at hT
      have f := dg14_f p n m
      have et : txL (sgn p) (aR p n m).1 (aR p n m).2 = dgS14 p n m := by
        unfold aR
        rw [Int.toNat_natCast]
        exact hT
      rw [et] at f
      have q0 := Go.Rn.sg_lt p
      have q1 := hf.ne
      have x0 := hf.e0
      have x1 := hf.e1
      obtain ⟨K, hK⟩ : ∃ K, K = 1074 := ⟨_, rfl⟩
      have wl := wAll_lt hf.s1 ⟨x0, x1⟩ K hK
      have lb : (aD p).length ≤ 16 + K := by
        rcases Nat.lt_or_ge (16 + K) (aD p).length with c | c
        · have := Nat.pow_le_pow_right (n := 10) (by omega) (show 16 + K ≤ (aD p).length - 1 by omega)
          have l2' : 10 ^ ((aD p).length - 1) ≤ wAll (sg p).toNat (xp p) := l2
          omega
        · exact c
      have zb : wzN (xp p) ≤ 1074 := by unfold wzN; omega
      have l1' : 1 ≤ (aD p).length := l1
      have eb : -2000 ≤ aE p ∧ aE p ≤ 2000 := by unfold aE; omega
      obtain ⟨r1, r2, r3⟩ := rnD_bd (D := aD p) (e := aE p) (n := (n : Int).toNat) (mn := sgn p) (m := m)
      rw [Int.toNat_natCast] at r1
      have al : allB 10 (aD p) = true := by
        have : aD p = decF (aD p).length (wAll (sg p).toNat (xp p)) := decS_decF hW
        rw [this]
        exact decF_all _ _ 10
      refine fitsT tabSS f (okCons (decide_eq_true ?_) (okCons al (okCons (decide_eq_true ⟨⟨l1', by omega⟩, ⟨by omega, by omega⟩, by omega, by omega⟩) (okCons (decide_eq_true ⟨by omega, by omega, x0, x1⟩) (okCons (beqR_f h0) k0))))) (by rfl) (by rfl) hk
      have e1 : (aR p n m).1.length = n := by unfold aR; rw [Int.toNat_natCast]; exact r1
      have e2 : aE p ≤ (aR p n m).2 ∧ (aR p n m).2 ≤ aE p + 1 := ⟨r2, r3⟩
      omega
  · obtain ⟨a, b⟩ := nm_sp hp h2
    rw [if_pos a, ← b]
    exact fitsT tabSS (dg14_n p n m) (okCons (decide_eq_false h2) k0) (by rfl) (by rfl) hk
/-- told ahead whether there may be so many digits -/
def gDgT : Ans := fun vals s =>
  match vals, s with
  | [.int .u64 p, .int .i64 n, .int .i64 m], .inr (.inr (.inr (.inl true))) :: s' => some (.tuple #[bR (dgT14 p n.toNat m), .nilIface], s', [(decide (1 ≤ n ∧ n ≤ 1000), true), (decide (U p), true)])
  | [.int .u64 _, .int .i64 n, .int .i64 _], .inr (.inr (.inr (.inl false))) :: s' => some (.tuple #[bR [], errV14 1], s', [(decide (1 ≤ n ∧ n ≤ 1000), false)])
  | _, _ => none
theorem gDgT_ok : AnsTOk 5 gDgT := by
  intro vals s v s' lg h hl w hk
  unfold gDgT at h
  split at h
  · rename_i p n m s2
    cases h
    obtain ⟨l1, l2⟩ := of_decide_eq_true (hl _ List.mem_cons_self)
    have l3 := of_decide_eq_true (hl _ (List.mem_cons_of_mem _ (List.mem_singleton.2 rfl)))
    obtain ⟨k, rfl⟩ : ∃ k : Nat, n = k := ⟨n.toNat, by omega⟩
    exact dgT_calls p l3 k (by omega) m w hk
  · rename_i p n m s2
    cases h
    have l1 := of_decide_eq_false (hl _ (List.mem_singleton.2 rfl))
    by_cases c : n < 1
    · exact fitsT tabSS (dg14_a p n m) (okL1 (decide_eq_true c)) (by rfl) (by rfl) hk
    · exact fitsT tabSS (dg14_b p n m) (okCons (decide_eq_true (by omega)) (okL1 (decide_eq_false c))) (by rfl) (by rfl) hk
  · cases h
theorem hex14_ok : AnsOk 35 (gU fun p => .string (hxW p)) := gU_ok hex_calls
def conHH : Con := alt 8 (gU vT) (alt 10 gNam (alt 21 gSgn (alt 22 gPtd (alt 35 (gU fun p => .string (hxW p)) (alt 34 gTrA conN)))))
theorem conHH_ok : ConOk conHH := alt_ok Tryz.func8 rfl take14_ok (alt_ok Tryz.func10 rfl gNam_ok (alt_ok Tryz.func21 rfl gSgn_ok (alt_ok Tryz.func22 rfl gPtd_ok (alt_ok Tryz.func35 rfl hex14_ok (alt_ok Tryz.func34 rfl gTrA_ok conN_ok)))))
theorem tabHH : TabOk (tabH Tryz.prog extY conHH hcDt) := tabH_ok conHH_ok hcDt_ok
/-- the digits of the fraction, and what is written of them -/
def hfD (p : Int) : List UInt8 := (hxW p).data.toList.drop 3
def hfT (p : Int) (c : UInt8) : List UInt8 := ptL ([c] ++ trC 48 (hfD p))
def hfW (p : Int) (c : UInt8) (x : Int) : List UInt8 := (((mnL (sgn p) ++ [48, 120]) ++ hfT p c) ++ [112]) ++ expL x
def lHf (p : Int) (c : UInt8) (x : Int) (l : Log) : Log := (decide ((((mnL (sgn p) ++ [48, 120]) ++ hfT p c) ++ [112]).length + (expL x).length ≤ 9223372036854775807), true) :: (decide (x.natAbs ≤ 2000000), true) :: (decide (((mnL (sgn p) ++ [48, 120]) ++ hfT p c).length + 1 ≤ 9223372036854775807), true) :: (decide ((mnL (sgn p) ++ [48, 120]).length + (hfT p c).length ≤ 9223372036854775807), true) :: (decide (1 ≤ ([c] ++ trC 48 (hfD p)).length ∧ ([c] ++ trC 48 (hfD p)).length ≤ 100000), true) :: (decide (1 + (trC 48 (hfD p)).length ≤ 9223372036854775807), true) :: (decide ((mnL (sgn p)).length + 2 ≤ 9223372036854775807), true) :: (true, true) :: (decide ((hfD p).length ≤ 100000), true) :: (true, true) :: (decide (U p), true) :: l
theorem hx14_n (p : Int) : Fits (reckonAt (tabH Tryz.prog extY conHH hcDt) hT0 200 16 [.int .u64 p] [cmp false, cmp false, cmp false]) (bR (nmL (sgn p) (cl p))) [(cl p == 2, false), (cl p == 1, false), (cl p == 0, false), (decide (U p), true)] := ⟨by kernel_rfl, by kernel_rfl, by kernel_rfl, by kernel_rfl⟩
theorem hx14_z (p : Int) : Fits (reckonAt (tabH Tryz.prog extY conHH hcDt) hT0 200 16 [.int .u64 p] [cmp true, sam true, sam true, sam true, sam true, sam true, sam true]) (bR (hfW p 48 0)) (lHf p 48 0 [(cl p == 0, true), (decide (U p), true)]) := ⟨by kernel_rfl, by kernel_rfl, by kernel_rfl, by kernel_rfl⟩
theorem hx14_t (p : Int) : Fits (reckonAt (tabH Tryz.prog extY conHH hcDt) hT0 200 16 [.int .u64 p] [cmp false, cmp true, sam true, sam true, sam true, sam true, sam true, sam true]) (bR (hfW p 48 (IntKind.i64.wrap (xp p + 52)))) (lHf p 48 (IntKind.i64.wrap (xp p + 52)) [(cl p == 1, true), (cl p == 0, false), (decide (U p), true)]) := ⟨by kernel_rfl, by kernel_rfl, by kernel_rfl, by kernel_rfl⟩
theorem hx14_p (p : Int) : Fits (reckonAt (tabH Tryz.prog extY conHH hcDt) hT0 200 16 [.int .u64 p] [cmp false, cmp false, cmp true, sam true, sam true, sam true, sam true, sam true, sam true]) (bR (hfW p 49 (IntKind.i64.wrap (xp p + 52)))) (lHf p 49 (IntKind.i64.wrap (xp p + 52)) [(cl p == 2, true), (cl p == 1, false), (cl p == 0, false), (decide (U p), true)]) := ⟨by kernel_rfl, by kernel_rfl, by kernel_rfl, by kernel_rfl⟩
theorem hSn_div (p : Int) : ∀ k : Nat, hSn p k = p / 16 ^ k
  | 0 => by show p = p / 16 ^ 0; rw [Int.pow_zero, Int.ediv_one]
  | k + 1 => by
    show hSx (hSn p k) = _
    rw [hSn_div p k]
    unfold hSx
    have e : (2 : Int) ^ min (Int.toNat 4) 64 = 16 := rfl
    rw [e, Int.fdiv_eq_ediv_of_nonneg _ (by omega), Int.ediv_ediv_of_nonneg (Int.le_of_lt (Int.pow_pos (by omega))), Int.pow_succ]
theorem hBx_mod {q r : Int} (hq : U q) (hr : U r) (h : q % 16 = r % 16) : hBx q = hBx r := by
  unfold hBx hC
  have e : ∀ q : Int, U q → bAnd q 15 = q % 16 := fun q hq => by
    rw [bAnd_mask 0 4 hq (by rfl) (by decide)]
    have e0 : (2 : Int) ^ 0 = 1 := rfl
    have e4 : (2 : Int) ^ 4 = 16 := rfl
    rw [e0, e4]
    omega
  rw [e q hq, e r hr, h]
theorem U_div14 {p : Int} (hp : U p) (k : Nat) : U (p / 16 ^ k) := by
  have h1 : (0 : Int) < 16 ^ k := Int.pow_pos (by omega)
  unfold U at hp ⊢
  exact ⟨Int.ediv_nonneg hp.1 (by omega), Int.lt_of_le_of_lt (Int.ediv_le_self _ hp.1) hp.2⟩
theorem hfD_fr {p : Int} (hp : U p) : hfD p = hd14 p := by
  have key : ∀ k : Nat, k ≤ 12 → hBx (hSn p k) = hBx (hSn (fr14 p) k) := fun k hk => by
    rw [hSn_div, hSn_div]
    have hf : fr14 p = p % 4503599627370496 := by
      unfold fr14
      have h1 := fr_lt p
      have h2 : fr p = p % 4503599627370496 := rfl
      have h3 : 0 ≤ sg p := (Go.Rn.sg_lt p).1
      rw [Int.tmod_eq_emod_of_nonneg h3, ← h2]
      unfold sg
      split
      · omega
      · split <;> omega
    have hu : U (fr14 p) := by rw [hf]; unfold U; omega
    refine hBx_mod (U_div14 hp k) (U_div14 hu k) ?_
    rw [hf]
    rcases (show k = 0 ∨ k = 1 ∨ k = 2 ∨ k = 3 ∨ k = 4 ∨ k = 5 ∨ k = 6 ∨ k = 7 ∨ k = 8 ∨ k = 9 ∨ k = 10 ∨ k = 11 ∨ k = 12 by omega) with rfl | rfl | rfl | rfl | rfl | rfl | rfl | rfl | rfl | rfl | rfl | rfl | rfl
    all_goals
      simp only [show (16 : Int) ^ 0 = 1 from rfl, show (16 : Int) ^ 1 = 16 from rfl, show (16 : Int) ^ 2 = 256 from rfl, show (16 : Int) ^ 3 = 4096 from rfl, show (16 : Int) ^ 4 = 65536 from rfl, show (16 : Int) ^ 5 = 1048576 from rfl, show (16 : Int) ^ 6 = 16777216 from rfl, show (16 : Int) ^ 7 = 268435456 from rfl, show (16 : Int) ^ 8 = 4294967296 from rfl, show (16 : Int) ^ 9 = 68719476736 from rfl, show (16 : Int) ^ 10 = 1099511627776 from rfl, show (16 : Int) ^ 11 = 17592186044416 from rfl, show (16 : Int) ^ 12 = 281474976710656 from rfl]
      omega
  unfold hfD hd14 hxW
  show [hBx (hSn p 12), hBx (hSn p 11), hBx (hSn p 10), hBx (hSn p 9), hBx (hSn p 8), hBx (hSn p 7), hBx (hSn p 6), hBx (hSn p 5), hBx (hSn p 4), hBx (hSn p 3), hBx (hSn p 2), hBx (hSn p 1), hBx (hSn p 0)] = [hBx (hSn (fr14 p) 12), hBx (hSn (fr14 p) 11), hBx (hSn (fr14 p) 10), hBx (hSn (fr14 p) 9), hBx (hSn (fr14 p) 8), hBx (hSn (fr14 p) 7), hBx (hSn (fr14 p) 6), hBx (hSn (fr14 p) 5), hBx (hSn (fr14 p) 4), hBx (hSn (fr14 p) 3), hBx (hSn (fr14 p) 2), hBx (hSn (fr14 p) 1), hBx (hSn (fr14 p) 0)]
  rw [key 12 (by omega), key 11 (by omega), key 10 (by omega), key 9 (by omega), key 8 (by omega), key 7 (by omega), key 6 (by omega), key 5 (by omega), key 4 (by omega), key 3 (by omega), key 2 (by omega), key 1 (by omega), key 0 (by omega)]
theorem hfW_is {p : Int} (hp : U p) (c : UInt8) (x : Int) : hfW p c x = hexT (sgn p) c (trR (hd14 p)) x := by
  unfold hfW hfT hexT mnL
  rw [hfD_fr hp, trC_48]
  cases trR (hd14 p) with
  | nil => simp [ptL]
  | cons a r => simp [ptL]
theorem hd_zero {p : Int} (h : fr14 p = 0) : trR (hd14 p) = [] := by
  unfold hd14
  rw [h]
  decide
theorem lHf_ok {p : Int} (hp : U p) (c : UInt8) {x : Int} (hx : x.natAbs ≤ 2000000) {l : Log} (hl : okLog l) : okLog (lHf p c x l) := by
  have l0 : (hfD p).length = 13 := rfl
  have l1 := mnL_len (sgn p)
  have l2 := trC_len 48 (hfD p)
  have l3 := ptL_len ([c] ++ trC 48 (hfD p))
  have l4 := expL_len x
  have l5 : ([c] ++ trC 48 (hfD p)).length = 1 + (trC 48 (hfD p)).length := by rw [List.length_append]; rfl
  have l6 : (hfT p c).length ≤ ([c] ++ trC 48 (hfD p)).length + 1 := l3
  have l7 : (mnL (sgn p) ++ [48, 120]).length = (mnL (sgn p)).length + 2 := by rw [List.length_append]; rfl
  have l8 : ((mnL (sgn p) ++ [48, 120]) ++ hfT p c).length = (mnL (sgn p)).length + 2 + (hfT p c).length := by rw [List.length_append, l7]
  have l9 : (((mnL (sgn p) ++ [48, 120]) ++ hfT p c) ++ [112]).length = (mnL (sgn p)).length + 2 + (hfT p c).length + 1 := by rw [List.length_append, l8]; rfl
  exact okCons (decide_eq_true (by omega)) (okCons (decide_eq_true hx) (okCons (decide_eq_true (by omega)) (okCons (decide_eq_true (by omega)) (okCons (decide_eq_true (by omega)) (okCons (decide_eq_true (by omega)) (okCons (decide_eq_true (by omega)) (okCons rfl (okCons (decide_eq_true (by omega)) (okCons rfl (okCons (decide_eq_true hp) hl))))))))))
theorem hxP_calls (p : Int) (hp : U p) (w : World) (hk : knT w) : Calls Tryz.prog 16 #[.int .u64 p] w fun e w' => e = .returned (bR (hx14 p)) ∧ Tidy w w' := by
  have hu : decide (U p) = true := decide_eq_true hp
  have xb := Go.Rn.xp_bd p
  have ew : IntKind.i64.wrap (xp p + 52) = xp p + 52 := wrapI (by omega) (by omega)
  unfold hx14
  by_cases h2 : cl p ≤ 2
  · rw [if_neg (fun c => c (fin_sp h2))]
    by_cases h0 : cl p = 0
    · have hf : fr14 p = 0 := by
        unfold fr14
        have : sg p = 0 := by
          unfold cl at h0
          unfold sg
          split at h0
          · rename_i c
            rw [if_pos c]
            split at h0
            · assumption
            · omega
          · split at h0
            · split at h0
              · omega
              · split at h0 <;> omega
            · omega
        rw [this]
        rfl
      have f := hx14_z p
      rw [hfW_is hp, hd_zero hf] at f
      rw [if_pos h0]
      have e : hexT (sgn p) 48 [] 0 = (if sgn p = true then [45] else []) ++ [48, 120, 48, 112, 48] := by
        unfold hexT
        rfl
      rw [e] at f
      exact fitsT tabHH f (lHf_ok hp 48 (by decide) (okCons (beqR_t h0) (okL1 hu))) (by rfl) (by rfl) hk
    · rw [if_neg h0]
      by_cases h1 : cl p = 1
      · have ex0 : xp p = -1074 := by
          have := cl_cases p
          unfold xp
          rcases this with ⟨a, _⟩ | ⟨a, b⟩ | ⟨a, b, c⟩
          · rw [if_pos a]
          · omega
          · omega
        have f := hx14_t p
        rw [hfW_is hp, ew, show xp p + 52 = -1022 by omega] at f
        rw [if_pos h1]
        exact fitsT tabHH f (lHf_ok hp 48 (by decide) (okCons (beqR_t h1) (okCons (beqR_f h0) (okL1 hu)))) (by rfl) (by rfl) hk
      · rw [if_neg h1]
        have h3 : cl p = 2 := by have := cl_cases p; omega
        have f := hx14_p p
        rw [hfW_is hp, ew] at f
        have lk := lHf_ok hp 49 (x := xp p + 52) (by omega) (okCons (beqR_t h3) (okCons (beqR_f h1) (okCons (beqR_f h0) (okL1 hu))))
        exact fitsT tabHH f lk (by rfl) (by rfl) hk
  · obtain ⟨a, b⟩ := nm_sp hp h2
    rw [if_pos a, ← b]
    exact fitsT tabHH (hx14_n p) (okCons (beqR_f (by omega)) (okCons (beqR_f (by omega)) (okCons (beqR_f (by omega)) (okL1 hu)))) (by rfl) (by rfl) hk
/-! ### as contracts -/
def gSoT : Ans := gU fun p => bR (shT p)
theorem gSoT_ok : AnsTOk 15 gSoT := by
  intro vals s v s' lg h hl w hk
  unfold gSoT gU at h
  split at h
  · cases h
    exact so_calls _ (of_decide_eq_true (hl _ (List.mem_singleton.2 rfl))) w hk
  · cases h
def gHxT : Ans := gU fun p => bR (hx14 p)
theorem gHxT_ok : AnsTOk 16 gHxT := by
  intro vals s v s' lg h hl w hk
  unfold gHxT gU at h
  split at h
  · cases h
    exact hxP_calls _ (of_decide_eq_true (hl _ (List.mem_singleton.2 rfl))) w hk
  · cases h
end Go.Proofs.YtgefjidphfdhdabGreatDoor
namespace Go.Proofs.YtgefjidphfdhdabGreatDoor
open Go.KRun Go.Nt Go.Rd Go.Pt
set_option maxRecDepth 100000
def hcSw : Hc := altH 15 (gT gSoT) (altH 5 (gT gDgT) (altH 16 (gT gHxT) hcN))
theorem hcSw_ok : HcOk hcSw := altH_ok Tryz.func15 rfl (gT_ok gSoT_ok) (altH_ok Tryz.func5 rfl (gT_ok gDgT_ok) (altH_ok Tryz.func16 rfl (gT_ok gHxT_ok) hcN_ok))
theorem su_1 : shT 4591870180066957722 = [49, 101, 45, 49] := by decide +kernel
theorem su_2 : dgT14 4607182418800017408 3 0 = [49, 46, 48, 48, 101, 48] := by decide +kernel
theorem su_3 : hx14 4609434218613702656 = [48, 120, 49, 46, 56, 112, 48] := by decide +kernel
theorem su14 : Fits (reckonAt (tabH Tryz.prog extY conN hcSw) hT0 200 6 [] [cmp true, sam true, sam true, sam true]) (.bool true) [lEqB (hx14 4609434218613702656) [48, 120, 49, 46, 56, 112, 48] true, (decide (U 4609434218613702656), true), lEqB (dgT14 4607182418800017408 3 0) [49, 46, 48, 48, 101, 48] true, lEqB (shT 4591870180066957722) [49, 101, 45, 49] true, (decide (U 4591870180066957722), true), (decide ((1 : Int) ≤ 3 ∧ (3 : Int) ≤ 1000), true), (decide (U 4607182418800017408), true)] := ⟨by kernel_rfl, by kernel_rfl, by kernel_rfl, by kernel_rfl⟩
def gSu14 : Ans := fun vals s =>
  match vals with
  | [] => some (.bool true, s, [])
  | _ => none
theorem gSu14_ok : AnsTOk 6 gSu14 := by
  intro vals s v s' lg h hl w hk
  unfold gSu14 at h
  split at h
  · cases h
    exact fitsT (tabH_ok conN_ok hcSw_ok) su14 (okCons (ok_lEqB (by rw [su_3]; rfl)) (okCons (by decide) (okCons (ok_lEqB (by rw [su_2]; rfl)) (okCons (ok_lEqB (by rw [su_1]; rfl)) (okCons (by decide) (okCons (by decide) (okL1 (by decide)))))))) (by rfl) (by rfl) hk
  · cases h
def hcLw : Hc := altH 6 (gT gSu14) hcSw
theorem hcLw_ok : HcOk hcLw := altH_ok Tryz.func6 rfl (gT_ok gSu14_ok) hcSw_ok
end Go.Proofs.YtgefjidphfdhdabGreatDoor
namespace Go.Proofs.YtgefjidphfdhdabGreatDoor
open Go.KRun Go.Wd Go.Pt Go.Rn
set_option maxRecDepth 100000
/-- what is known of calls: rounding, a pattern's parts, its class -/
def conG0 : Con := alt 17 gRd (alt 8 (gU vT) (alt 19 (gU fun p => .int .i64 (cl p)) conN))
theorem conG0_ok : ConOk conG0 := alt_ok Tryz.func17 rfl gRd_ok (alt_ok Tryz.func8 rfl take_ok (alt_ok Tryz.func19 rfl cls_ok conN_ok))
/-! ### its numbers -/
def wOne (s : Int) : W4 := ⟨s, 0, 0, 0⟩
theorem w1_nat {x : Int} (h : 0 ≤ x) (h1 : x < 18446744073709551616) : (⟨x, 0, 0, 0⟩ : W4).ok ∧ (⟨x, 0, 0, 0⟩ : W4).nat = x.toNat := by
  refine ⟨⟨⟨h, h1⟩, ⟨by dsimp only; omega, by dsimp only; omega⟩, ⟨by dsimp only; omega, by dsimp only; omega⟩, ⟨by dsimp only; omega, by dsimp only; omega⟩⟩, ?_⟩
  unfold W4.nat W4.val
  simp only [Int.mul_zero, Int.add_zero]
/-- the program's rounding in plain terms -/
theorem rd_w9 (m : Int) (n : Bool) {x : W4} (hx : x.ok) {C D : Int} (h : C = D ∨ (1700 ≤ C ∧ 1700 ≤ D) ∨ (C ≤ -1700 ∧ D ≤ -1700)) : rdV m n (tw x false) (clp C - 1) = rdT (sS n (rnP m n x.nat D)) (rnF m n x.nat D) := by
  obtain ⟨p, f⟩ := same_round (m := m) (neg := n) hx false (C := clp C) (D := D) (by unfold clp; split <;> split <;> omega)
  unfold rdV
  rw [p, f]
  simp only [rT, jB, Int.sub_zero]
def opP (m k : Int) : Int := sS false (rnP m false k.toNat 0)
def opF (m k : Int) : Int := rnF m false k.toNat 0
theorem op_1 (k m : Int) : Fits (reckon (tabOf Tryz.prog extY conG0 true) 300 4 [.int .u64 k, .int .i64 m] []) (rdV m false (tw (wOne k) false) (clp 0 - 1)) [(decide (wOne k).ok, true)] := ⟨by kernel_rfl, by kernel_rfl, by kernel_rfl, by kernel_rfl⟩
theorem one_ok {k : Int} (h : U k) : (wOne k).ok := (w1_nat h.1 h.2).1
theorem one_rd {k : Int} (h : U k) (m : Int) (n : Bool) : rdV m n (tw (wOne k) false) (clp 0 - 1) = rdT (sS n (rnP m n k.toNat 0)) (rnF m n k.toNat 0) := by
  have e : (wOne k).nat = k.toNat := (w1_nat h.1 h.2).2
  rw [rd_w9 m n (one_ok h) (C := 0) (D := 0) (.inl rfl), e]
theorem op_calls (k m : Int) (hk : U k) (w : World) : Calls Tryz.prog 4 #[.int .u64 k, .int .i64 m] w fun r w' => r = .returned (rdT (opP m k) (opF m k)) ∧ Tidy w w' := by
  have T := tabY_ok conG0_ok
  have hv : ([.int .u64 k, .int .i64 m].all (lt 0)) = true := rfl
  have o := one_ok hk
  have hf := op_1 k m
  rw [one_rd hk] at hf
  exact fits_calls T hf (okL1 (decide_eq_true o)) hv (by rfl) w
def gOp : Ans := fun vals s =>
  match vals with
  | [.int .u64 k, .int .i64 m] => some (rdT (opP m k) (opF m k), s, [(decide (U k), true)])
  | _ => none
theorem gOp_ok : AnsOk 4 gOp := by
  intro vals s v s' lg h hl w
  unfold gOp at h
  split at h
  · cases h
    exact op_calls _ _ (of_decide_eq_true (hl _ (List.mem_singleton.2 rfl))) w
  · cases h
end Go.Proofs.YtgefjidphfdhdabGreatDoor
