/-
  rnd.Round, as a call in every world.
-/
import Derived.Test.YtecaahiajbkioaaG08
namespace Go.Proofs.Ytecaahiajbkioaa
open Go.KRun Go.Wd Go.Pt Go.Rn
set_option maxRecDepth 100000

def lgR (ex : Int) (x : W4) : Int := lgW (clp ex) x
def e0 (ex : Int) (x : W4) : Int := if -1074 > m52 (lgR ex x) then -1074 else m52 (lgR ex x)
def qR (m : Int) (n : Bool) (x : W4) (b : Bool) (ex : Int) : Nat := toQ m n (tw x b) (clp ex - 1) (e0 ex x)
def oR (x : W4) (b : Bool) (ex : Int) : Bool := toL (tw x b) (clp ex - 1) (e0 ex x)
def pR (m : Int) (n : Bool) (x : W4) (b : Bool) (ex : Int) : Int := IntKind.u64.wrap (IntKind.u64.wrap (IntKind.u64.wrap (IntKind.i64.wrap (e0 ex x - -1074)) * 2 ^ min (Int.toNat 52) 64) + (ofN (qR m n x b ex)).a)
def sgR (n : Bool) (p : Int) : Int := match n with | true => bXor p 9223372036854775808 | false => p
def lTm (m : Int) (n : Bool) (x : W4) (b : Bool) (ex : Int) (o d : Bool) : Log := [(oR x b ex, o), (decide (qR m n x b ex < 2 ^ 256), true), (okTm x (clp ex) (e0 ex x), true), (decide x.ok, true), (eqW x ⟨0, 0, 0, 0⟩, d)]
def lBig (m : Int) (n : Bool) (x : W4) (b : Bool) (ex : Int) (d : Bool) : Bool × Bool := (decide (pR m n x b ex ≥ 9218868437227405312), d)
def l52 : Bool × Bool := (decide ((52 : Int) < 0), false)
def rdT (p f : Int) : Value := .tuple #[.int .u64 p, .int .u8 f]
theorem rd_zero (n : Bool) (x : W4) (ex m : Int) : Fits (reckon (tabOf Try.prog extY conTi true) 300 20 [vN n ex x false, .int .i64 m] [sam true]) (rdT (sgR n 0) 0) [(eqW x ⟨0, 0, 0, 0⟩, true)] := by
  cases n <;> exact ⟨by kernel_rfl, by kernel_rfl, by kernel_rfl, by kernel_rfl⟩
theorem rd_big (n b o : Bool) (x : W4) (ex m : Int) : Fits (reckon (tabOf Try.prog extY conTi true) 300 20 [vN n ex x b, .int .i64 m] [sam false, cmp true, cmp o, cmp true]) (rdT (sgR n (bey m n)) 20) (lBig m n x b ex true :: l52 :: lTm m n x b ex o false) := by
  cases n <;> cases o <;> exact ⟨by kernel_rfl, by kernel_rfl, by kernel_rfl, by kernel_rfl⟩
theorem rd_big' (n o : Bool) (x : W4) (ex m : Int) : Fits (reckon (tabOf Try.prog extY conTi true) 300 20 [vN n ex x true, .int .i64 m] [sam true, cmp true, cmp o, cmp true]) (rdT (sgR n (bey m n)) 20) (lBig m n x true ex true :: l52 :: lTm m n x true ex o true) := by
  cases n <;> cases o <;> exact ⟨by kernel_rfl, by kernel_rfl, by kernel_rfl, by kernel_rfl⟩
theorem rd_just (n b : Bool) (x : W4) (ex m : Int) : Fits (reckon (tabOf Try.prog extY conTi true) 300 20 [vN n ex x b, .int .i64 m] [sam false, cmp true, cmp false, cmp false]) (rdT (sgR n (pR m n x b ex)) 0) (lBig m n x b ex false :: l52 :: lTm m n x b ex false false) := by
  cases n <;> exact ⟨by kernel_rfl, by kernel_rfl, by kernel_rfl, by kernel_rfl⟩
theorem rd_just' (n : Bool) (x : W4) (ex m : Int) : Fits (reckon (tabOf Try.prog extY conTi true) 300 20 [vN n ex x true, .int .i64 m] [sam true, cmp true, cmp false, cmp false]) (rdT (sgR n (pR m n x true ex)) 0) (lBig m n x true ex false :: l52 :: lTm m n x true ex false true) := by
  cases n <;> exact ⟨by kernel_rfl, by kernel_rfl, by kernel_rfl, by kernel_rfl⟩
def fgT (t : Bool) : Int := match t with | true => 24 | false => 16
def lTn (m : Int) (n : Bool) (x : W4) (b : Bool) (ex : Int) (t : Bool) (l : Log) : Log := (tnK m n (tw x b) (clp ex - 1) (lgR ex x), t) :: (decide (lgR ex x = -1023 → toQ m n (tw x b) (clp ex - 1) (-1075) < 2 ^ 256), true) :: (okTm x (clp ex) 0, true) :: l
theorem rd_near (n b t : Bool) (x : W4) (ex m : Int) : Fits (reckon (tabOf Try.prog extY conTi true) 300 20 [vN n ex x b, .int .i64 m] [sam false, cmp true, cmp true, cmp false, cmp t]) (rdT (sgR n (pR m n x b ex)) (fgT t)) (lTn m n x b ex t (lBig m n x b ex false :: l52 :: lTm m n x b ex true false)) := by
  cases n <;> cases t <;> exact ⟨by kernel_rfl, by kernel_rfl, by kernel_rfl, by kernel_rfl⟩
theorem rd_near' (n t : Bool) (x : W4) (ex m : Int) : Fits (reckon (tabOf Try.prog extY conTi true) 300 20 [vN n ex x true, .int .i64 m] [sam true, cmp true, cmp true, cmp false, cmp t]) (rdT (sgR n (pR m n x true ex)) (fgT t)) (lTn m n x true ex t (lBig m n x true ex false :: l52 :: lTm m n x true ex true true)) := by
  cases n <;> cases t <;> exact ⟨by kernel_rfl, by kernel_rfl, by kernel_rfl, by kernel_rfl⟩

/-! ### its numbers -/
theorem tw_len {x : W4} {b : Bool} (h : tw x b ≠ 0) : bitLen (tw x b) = bitLen x.nat + 1 := by
  have hd : tw x b / 2 ^ 1 = x.nat := by
    have := tw_div x b 0
    simpa using this
  by_cases h0 : x.nat = 0
  · have : tw x b = 1 := by
      have e : tw x b / 2 = x.nat := by simpa using hd
      omega
    rw [this, h0]
    rfl
  · rw [bitLen_shift (tw x b) 1 (by rw [hd]; exact h0), hd]
    omega
theorem len256 {x : W4} (hx : x.ok) : bitLen x.nat ≤ 256 := len_le (W4.nat_lt hx)
theorem lgR_eq {x : W4} {b : Bool} {ex : Int} (hx : x.ok) (h : tw x b ≠ 0) : lgR ex x = lgN (tw x b) (clp ex - 1) := by
  have h1 := clp_bd ex
  have h2 := len256 hx
  unfold lgR lgW lgN
  rw [lenI_nat, tw_len h, wrapI' (n := clp ex + ((bitLen x.nat : Nat) : Int)) ⟨by omega, by omega⟩, wrapI' ⟨by omega, by omega⟩]
  omega
theorem lgN_bd {x : W4} {b : Bool} {ex : Int} (hx : x.ok) (h : tw x b ≠ 0) : -2002 ≤ lgN (tw x b) (clp ex - 1) ∧ lgN (tw x b) (clp ex - 1) ≤ 2300 := by
  have h1 := clp_bd ex
  have h2 := len256 hx
  unfold lgN
  rw [tw_len h]
  omega
theorem e0_eq {x : W4} {b : Bool} {ex : Int} (hx : x.ok) (h : tw x b ≠ 0) : e0 ex x = lowE (tw x b) (clp ex - 1) := by
  have hb := lgN_bd (ex := ex) hx h
  unfold e0 m52 lowE
  rw [lgR_eq hx h, wrapI' ⟨by omega, by omega⟩]
  split <;> split <;> omega
theorem lowE_bd {x : W4} {b : Bool} {ex : Int} (hx : x.ok) (h : tw x b ≠ 0) : -1074 ≤ lowE (tw x b) (clp ex - 1) ∧ lowE (tw x b) (clp ex - 1) ≤ 2300 := by
  have hb := lgN_bd (ex := ex) hx h
  unfold lowE
  split <;> omega
theorem ofN_a {q : Nat} (h : q < 18446744073709551616) : (ofN q).a = (q : Int) := by unfold ofN W4.of; dsimp only; omega
theorem pR_eq {m : Int} {n : Bool} {x : W4} {b : Bool} {ex : Int} (hx : x.ok) (h : tw x b ≠ 0) : pR m n x b ex = p0 m n (tw x b) (clp ex - 1) ∧ p0 m n (tw x b) (clp ex - 1) < 18446744073709551616 := by
  have hb := lowE_bd (ex := ex) hx h
  have hq := low_hi m n (tw x b) (clp ex - 1)
  have e1 : ((2 : Int) ^ min (Int.toNat 52) 64) = 4503599627370496 := by rfl
  unfold pR qR p0
  rw [e0_eq hx h, ofN_a (by omega), e1, wrapI' ⟨by omega, by omega⟩, wrapU' (n := lowE (tw x b) (clp ex - 1) - -1074) ⟨by omega, by omega⟩, wrapU' (n := (lowE (tw x b) (clp ex - 1) - -1074) * 4503599627370496) ⟨by omega, by omega⟩, wrapU' ⟨by omega, by omega⟩]
  omega
def sS (n : Bool) (p : Int) : Int := if n = true then 9223372036854775808 + p else p
theorem sgR_eq {n : Bool} {p : Int} (h0 : 0 ≤ p) (h1 : p ≤ 9218868437227405312) : sgR n p = sS n p := by
  cases n
  · rfl
  · simp only [sgR, sS, if_true]
    rw [bXor_sign ⟨by omega, by omega⟩]
    omega
theorem tnK_eq (m : Int) (n : Bool) (T : Nat) (E : Int) : tnK m n T E (lgN T E) = tiny m n T E := rfl
/-- what Round answers -/
def rdV (m : Int) (n : Bool) (T : Nat) (E : Int) : Value := rdT (sS n (rnP m n T E)) (rnF m n T E)
theorem round_calls (n b : Bool) (x : W4) (ex m : Int) (hx : x.ok) (w : World) : Calls Try.prog 20 #[vN n ex x b, .int .i64 m] w fun r w' => r = .returned (rdV m n (tw x b) (clp ex - 1)) ∧ Tidy w w' := by
  have hv : ([vN n ex x b, .int .i64 m].all (lt 0)) = true := rfl
  unfold rdV
  by_cases hz : tw x b = 0
  · have h1 := (tw_zero hx).1 hz
    rw [Bool.and_eq_true] at h1
    have hb : b = false := by simpa using h1.2
    subst hb
    have h := fits_calls (tabY_ok conTi_ok) (rd_zero n x ex m) (okL1 h1.1) hv (by rfl) w
    rw [sgR_eq (by omega) (by omega)] at h
    unfold rnP rnF
    rw [if_pos hz, if_pos hz]
    exact h
  · obtain ⟨ep, hp⟩ := pR_eq (m := m) (n := n) (ex := ex) hx hz
    have hbd := clp_bd ex
    have hel := lowE_bd (ex := ex) hx hz
    have hq := low_hi m n (tw x b) (clp ex - 1)
    have ee := e0_eq (ex := ex) hx hz
    have el := lgR_eq (ex := ex) hx hz
    have hp0 := p0_nonneg m n (tw x b) (clp ex - 1)
    have e256 : (2 : Nat) ^ 256 = 115792089237316195423570985008687907853269984665640564039457584007913129639936 := rfl
    have kq : decide (qR m n x b ex < 2 ^ 256) = true := decide_eq_true (by unfold qR; rw [ee]; omega)
    have kt : okTm x (clp ex) (e0 ex x) = true := decide_eq_true ⟨hx, by omega, by omega, by omega, by omega⟩
    have kt0 : okTm x (clp ex) 0 = true := decide_eq_true ⟨hx, by omega, by omega, by omega, by omega⟩
    have kx : decide x.ok = true := decide_eq_true hx
    have ko : oR x b ex = toL (tw x b) (clp ex - 1) (lowE (tw x b) (clp ex - 1)) := by unfold oR; rw [ee]
    have kn : decide (lgR ex x = -1023 → toQ m n (tw x b) (clp ex - 1) (-1075) < 2 ^ 256) = true := decide_eq_true fun hl => by
      rw [el] at hl
      have : toQ m n (tw x b) (clp ex - 1) (-1075) ≤ 2 ^ 53 := toQ_le (by unfold lgN at hl; omega)
      have e53 : (2 : Nat) ^ 53 = 9007199254740992 := rfl
      omega
    have key : ∃ d, eqW x ⟨0, 0, 0, 0⟩ = d ∧ (d = false ∨ (d = true ∧ b = true)) := by
      refine ⟨_, rfl, ?_⟩
      cases he : eqW x ⟨0, 0, 0, 0⟩
      · exact .inl rfl
      · right
        refine ⟨rfl, ?_⟩
        cases hb : b
        · exact absurd ((tw_zero hx).2 (by rw [he, hb]; rfl)) hz
        · rfl
    obtain ⟨d, hd, hdb⟩ := key
    have lt5 : ∀ o, oR x b ex = o → okLog (lTm m n x b ex o d) := fun o ho => okCons ho (okCons kq (okCons kt (okCons kx (okL1 hd))))
    unfold rnP rnF
    rw [if_neg hz, if_neg hz]
    by_cases hbig : 9218868437227405312 ≤ p0 m n (tw x b) (clp ex - 1)
    · rw [if_pos hbig, if_pos hbig]
      have hb2 := bey_or m n
      have hs : sgR n (bey m n) = sS n (bey m n) := sgR_eq (by omega) (by omega)
      rw [← hs]
      have lB : decide (pR m n x b ex ≥ 9218868437227405312) = true := decide_eq_true (by rw [ep]; exact hbig)
      rcases hdb with rfl | ⟨rfl, rfl⟩
      · exact fits_calls (tabY_ok conTi_ok) (rd_big n b (oR x b ex) x ex m) (okCons lB (okCons rfl (lt5 _ rfl))) hv (by rfl) w
      · exact fits_calls (tabY_ok conTi_ok) (rd_big' n (oR x true ex) x ex m) (okCons lB (okCons rfl (lt5 _ rfl))) hv (by rfl) w
    · rw [if_neg hbig, if_neg hbig]
      have hs : sgR n (pR m n x b ex) = sS n (p0 m n (tw x b) (clp ex - 1)) := by rw [ep]; exact sgR_eq hp0 (by omega)
      rw [← hs]
      have lB : decide (pR m n x b ex ≥ 9218868437227405312) = false := decide_eq_false (by rw [ep]; exact hbig)
      by_cases hl : toL (tw x b) (clp ex - 1) (lowE (tw x b) (clp ex - 1)) = true
      · rw [if_pos hl]
        have ht : tnK m n (tw x b) (clp ex - 1) (lgR ex x) = tiny m n (tw x b) (clp ex - 1) := by rw [el, tnK_eq]
        have ef : (if tiny m n (tw x b) (clp ex - 1) = true then (24 : Int) else 16) = fgT (tiny m n (tw x b) (clp ex - 1)) := by
          cases tiny m n (tw x b) (clp ex - 1) <;> rfl
        rw [ef]
        rcases hdb with rfl | ⟨rfl, rfl⟩
        · exact fits_calls (tabY_ok conTi_ok) (rd_near n b (tiny m n (tw x b) (clp ex - 1)) x ex m) (okCons ht (okCons kn (okCons kt0 (okCons lB (okCons rfl (lt5 _ (ko.trans hl))))))) hv (by rfl) w
        · exact fits_calls (tabY_ok conTi_ok) (rd_near' n (tiny m n (tw x true) (clp ex - 1)) x ex m) (okCons ht (okCons kn (okCons kt0 (okCons lB (okCons rfl (lt5 _ (ko.trans hl))))))) hv (by rfl) w
      · rw [if_neg hl]
        have hl' := ko.trans (by simpa using hl)
        rcases hdb with rfl | ⟨rfl, rfl⟩
        · exact fits_calls (tabY_ok conTi_ok) (rd_just n b x ex m) (okCons lB (okCons rfl (lt5 _ hl'))) hv (by rfl) w
        · exact fits_calls (tabY_ok conTi_ok) (rd_just' n x ex m) (okCons lB (okCons rfl (lt5 _ hl'))) hv (by rfl) w
def gRd : Ans := fun vals s =>
  match vals with
  | [v, .int .i64 m] =>
    match n7 v with
    | some (n, ex, x, b) => some (rdV m n (tw x b) (clp ex - 1), s, [(decide x.ok, true)])
    | none => none
  | _ => none
theorem gRd_ok : AnsOk 20 gRd := by
  intro vals s v s' lg h hl w
  unfold gRd at h
  split at h
  · split at h
    · rename_i n ex x b hn
      cases h
      rw [n7_spec hn]
      exact round_calls n b x ex _ (of_decide_eq_true (hl _ (List.mem_singleton.2 rfl))) w
    · cases h
  · cases h
/-! ### sure -/
def conR0 : Con := alt 20 gRd conN
theorem conR0_ok : ConOk conR0 := alt_ok Try.func20 rfl gRd_ok conN_ok
end Go.Proofs.Ytecaahiajbkioaa

/-
  PLAIN ARITHMETIC: lists of words, the lowest first: what is left of them without noughts at the end; the number that they are.
-/
namespace Go.Nt

/-- how many are left without noughts at the end -/
def trimN : List Int → Nat
  | [] => 0
  | x :: r => if trimN r = 0 then (if x = 0 then 0 else 1) else trimN r + 1
theorem trimN_le : ∀ L : List Int, trimN L ≤ L.length
  | [] => Nat.le_refl _
  | x :: r => by
    have := trimN_le r
    unfold trimN
    split
    · split <;> simp
    · simp; omega
theorem trimN_high : ∀ (L : List Int) (i : Nat), trimN L ≤ i → L.getD i 0 = 0
  | [], i, _ => by simp
  | x :: r, i, h => by
    unfold trimN at h
    cases i with
    | zero =>
      split at h
      · split at h
        · rename_i h1; simp [h1]
        · omega
      · omega
    | succ i =>
      have := trimN_high r i (by split at h <;> (try split at h) <;> omega)
      simpa using this
theorem trimN_top : ∀ L : List Int, trimN L = 0 ∨ L.getD (trimN L - 1) 0 ≠ 0
  | [] => .inl rfl
  | x :: r => by
    have ih := trimN_top r
    unfold trimN
    split
    · split
      · exact .inl rfl
      · rename_i h; exact .inr (by simpa using h)
    · rename_i h
      rcases ih with ih | ih
      · exact absurd ih h
      · refine .inr ?_
        obtain ⟨k, hk⟩ : ∃ k, trimN r = k + 1 := ⟨trimN r - 1, by omega⟩
        rw [hk] at ih ⊢
        simpa using ih
theorem trimN_uniq {L : List Int} {k : Nat} (h1 : ∀ i, k ≤ i → L.getD i 0 = 0) (h2 : k = 0 ∨ L.getD (k - 1) 0 ≠ 0) : trimN L = k := by
  rcases Nat.lt_trichotomy (trimN L) k with h | h | h
  · rcases h2 with h2 | h2
    · omega
    · exact absurd (trimN_high L (k - 1) (by omega)) h2
  · exact h
  · rcases trimN_top L with h3 | h3
    · omega
    · exact absurd (h1 (trimN L - 1) (by omega)) h3
/-- from the highest down -/
def topCmp (L M : List Int) : Nat → Int
  | 0 => 0
  | k + 1 => if L.getD k 0 = M.getD k 0 then topCmp L M k else if L.getD k 0 < M.getD k 0 then -1 else 1
def cmpL (L M : List Int) : Int := if L.length = M.length then topCmp L M L.length else if L.length < M.length then -1 else 1
end Go.Nt

/-
  PLAIN ARITHMETIC: the digits of a number to a base, the lowest first, the last one not 0; the number of digits.
-/
namespace Go.Nt

/-- a number's value, of digits to a base -/
def vb (b : Nat) : List Int → Nat
  | [] => 0
  | x :: l => x.toNat + b * vb b l
/-- a number's digits -/
def db (b V : Nat) : List Int := if _h : V = 0 ∨ b < 2 then [] else ((V % b : Nat) : Int) :: db b (V / b)
  termination_by V
  decreasing_by exact Nat.div_lt_self (by omega) (by omega)
/-- digits to a base -/
abbrev Dg (b : Nat) (x : Int) : Prop := 0 ≤ x ∧ x < b
theorem db_zero (b : Nat) : db b 0 = [] := by rw [db]; simp
theorem db_pos {b V : Nat} (hb : 2 ≤ b) (hV : V ≠ 0) : db b V = ((V % b : Nat) : Int) :: db b (V / b) := by
  rw [db]
  rw [dif_neg (by omega)]
theorem vb_db {b : Nat} (hb : 2 ≤ b) (V : Nat) : vb b (db b V) = V := by
  induction V using Nat.strongRecOn with
  | ind V ih =>
    by_cases hV : V = 0
    · subst hV; rw [db_zero]; rfl
    · rw [db_pos hb hV]
      simp only [vb]
      rw [ih (V / b) (Nat.div_lt_self (by omega) (by omega)), Int.toNat_natCast]
      exact Nat.mod_add_div V b
theorem db_dg {b : Nat} (hb : 2 ≤ b) (V : Nat) : ∀ x ∈ db b V, Dg b x := by
  induction V using Nat.strongRecOn with
  | ind V ih =>
    by_cases hV : V = 0
    · subst hV; rw [db_zero]; intro x hx; cases hx
    · rw [db_pos hb hV]
      intro x hx
      rcases List.mem_cons.1 hx with rfl | hx
      · have := Nat.mod_lt V (show b > 0 by omega)
        exact ⟨by omega, by omega⟩
      · exact ih (V / b) (Nat.div_lt_self (by omega) (by omega)) x hx
theorem db_nil {b V : Nat} (hb : 2 ≤ b) : db b V = [] ↔ V = 0 := by
  constructor
  · intro h
    by_cases hV : V = 0
    · exact hV
    · rw [db_pos hb hV] at h; cases h
  · rintro rfl; exact db_zero b
/-- digits without noughts at the end are the number's -/
theorem take_trim {b : Nat} (hb : 2 ≤ b) : ∀ (L : List Int), (∀ x ∈ L, Dg b x) → L.take (trimN L) = db b (vb b L)
  | [], _ => by simp [vb, db_zero]
  | x :: r, h => by
    have ih := take_trim hb r (fun y hy => h y (List.mem_cons_of_mem _ hy))
    have hx := h x (List.mem_cons_self)
    have hxn : ((x.toNat : Nat) : Int) = x := Int.toNat_of_nonneg hx.1
    have hlt : x.toNat < b := by omega
    have e1 : (x.toNat + b * vb b r) % b = x.toNat := by rw [Nat.add_mul_mod_self_left, Nat.mod_eq_of_lt hlt]
    have e2 : (x.toNat + b * vb b r) / b = vb b r := by rw [Nat.add_mul_div_left _ _ (by omega), Nat.div_eq_of_lt hlt, Nat.zero_add]
    unfold trimN
    by_cases h0 : trimN r = 0
    · rw [if_pos h0]
      rw [h0, List.take_zero] at ih
      have hv : vb b r = 0 := (db_nil hb).1 ih.symm
      by_cases hx0 : x = 0
      · rw [if_pos hx0]
        simp only [List.take_zero, vb, hv, hx0]
        simp [db_zero]
      · rw [if_neg hx0]
        have hx1 : x.toNat ≠ 0 := by omega
        show [x] = _
        simp only [vb]
        rw [db_pos hb (by rw [hv]; omega), e1, e2, hv, db_zero, hxn]
    · rw [if_neg h0]
      have hv : vb b r ≠ 0 := fun hv => by
        rw [hv, db_zero] at ih
        have hl := congrArg List.length ih
        have := trimN_le r
        simp at hl
        rcases hl with hl | hl
        · exact h0 hl
        · subst hl; exact h0 rfl
      have hpos : 0 < b * vb b r := Nat.mul_pos (by omega) (by omega)
      show x :: r.take (trimN r) = _
      simp only [vb]
      rw [db_pos hb (by omega), e1, e2, hxn, ih]
theorem trim_len {b : Nat} (hb : 2 ≤ b) {L : List Int} (h : ∀ x ∈ L, Dg b x) : trimN L = (db b (vb b L)).length := by
  rw [← take_trim hb L h]
  have := trimN_le L
  simp
  omega
/-- a number's digits are those of it -/
def Canon (b : Nat) (L : List Int) : Prop := (∀ x ∈ L, Dg b x) ∧ trimN L = L.length
theorem can_db {b : Nat} (hb : 2 ≤ b) (V : Nat) : Canon b (db b V) := by
  have h := db_dg hb V
  refine ⟨h, ?_⟩
  have := trim_len hb h
  rw [vb_db hb] at this
  exact this
theorem db_can {b : Nat} (hb : 2 ≤ b) {L : List Int} (h : Canon b L) : db b (vb b L) = L := by
  rw [← take_trim hb L h.1, h.2, List.take_length]
theorem db_len {b : Nat} (hb : 2 ≤ b) : ∀ (k V : Nat), V < b ^ k → (db b V).length ≤ k
  | 0, V, h => by
    have : V = 0 := by simpa using h
    subst this; rw [db_zero]; exact Nat.le_refl _
  | k + 1, V, h => by
    by_cases hV : V = 0
    · subst hV; rw [db_zero]; exact Nat.zero_le _
    · rw [db_pos hb hV]
      have : V / b < b ^ k := Nat.div_lt_of_lt_mul (by rw [Nat.pow_succ] at h; rw [Nat.mul_comm]; exact h)
      have := db_len hb k (V / b) this
      simp
      omega
theorem vb_lt {b : Nat} (hb : 2 ≤ b) : ∀ (L : List Int), (∀ x ∈ L, Dg b x) → vb b L < b ^ L.length
  | [], _ => by simp [vb]
  | x :: r, h => by
    have ih := vb_lt hb r (fun y hy => h y (List.mem_cons_of_mem _ hy))
    have hx := h x (List.mem_cons_self)
    have hlt : x.toNat < b := by omega
    simp only [vb, List.length_cons, Nat.pow_succ]
    calc x.toNat + b * vb b r < b + b * vb b r := by omega
      _ = b * (vb b r + 1) := by rw [Nat.mul_add, Nat.mul_one, Nat.add_comm]
      _ ≤ b * b ^ r.length := Nat.mul_le_mul_left _ ih
      _ = b ^ r.length * b := Nat.mul_comm _ _
theorem vb_append (b : Nat) : ∀ (L M : List Int), vb b (L ++ M) = vb b L + b ^ L.length * vb b M
  | [], M => by simp [vb]
  | x :: r, M => by
    simp only [List.cons_append, vb, vb_append b r M, List.length_cons, Nat.pow_succ]
    rw [Nat.mul_add, ← Nat.mul_assoc, Nat.mul_comm b (b ^ r.length)]
    omega
end Go.Nt
