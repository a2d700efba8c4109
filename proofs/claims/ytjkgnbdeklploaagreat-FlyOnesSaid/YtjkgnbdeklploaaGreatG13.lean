/-
  GnW, NumH, GnA, SuC, Con4, Con5, Con6, NumPr, PrA, PrB
-/
import Derived.Test.YtjkgnbdeklploaaGreatG12
namespace Go.Proofs.YtjkgnbdeklploaaGreat
open Go.KRun Go.Pt
set_option maxRecDepth 100000
/-- a truth of two words, told ahead -/
def gUUb (k : Int → Int → Bool) : Ans := fun vals s =>
  match vals, s with
  | [.int .u64 a, .int .u64 b], .inr (.inr (.inr (.inl d))) :: s' => some (.bool d, s', [(k a b, d), (decide (U a ∧ U b), true)])
  | _, _ => none
theorem gUUb_ok {f : Nat} {k : Int → Int → Bool} (hk : ∀ a b : Int, U a → U b → ∀ w, Calls Tryz.prog f #[.int .u64 a, .int .u64 b] w fun e w' => e = .returned (.bool (k a b)) ∧ Tidy w w') : AnsOk f (gUUb k) := by
  intro vals s v s' lg h hl w
  unfold gUUb at h
  split at h
  · cases h
    have e := hl _ (List.mem_cons_self)
    obtain ⟨h1, h2⟩ := of_decide_eq_true (hl _ (List.mem_cons_of_mem _ (List.mem_singleton.2 rfl)))
    simp only at e
    rw [← e]
    exact hk _ _ h1 h2 w
  · cases h
/-- a value of two words -/
def gUU (k : Int → Int → Value) (c : Int → Int → Bool) : Ans := fun vals s =>
  match vals with
  | [.int .u64 a, .int .u64 b] => some (k a b, s, [(c a b, true), (decide (U a ∧ U b), true)])
  | _ => none
theorem gUU_ok {f : Nat} {k : Int → Int → Value} {c : Int → Int → Bool} (hk : ∀ a b : Int, U a → U b → c a b = true → ∀ w, Calls Tryz.prog f #[.int .u64 a, .int .u64 b] w fun e w' => e = .returned (k a b) ∧ Tidy w w') : AnsOk f (gUU k c) := by
  intro vals s v s' lg h hl w
  unfold gUU at h
  split at h
  · cases h
    have e := hl _ (List.mem_cons_self)
    obtain ⟨h1, h2⟩ := of_decide_eq_true (hl _ (List.mem_cons_of_mem _ (List.mem_singleton.2 rfl)))
    exact hk _ _ h1 h2 e w
  · cases h
theorem beq_t {x y : Int} (h : x = y) : (x == y) = true := by simpa using h
theorem beq_f {x y : Int} (h : x ≠ y) : (x == y) = false := by simpa using h
theorem bne_t {x y : Int} (h : x ≠ y) : (x != y) = true := by simpa using h
theorem bne_f {x y : Int} (h : x = y) : (x != y) = false := by simpa using h
theorem cl_bd (p : Int) : 0 ≤ cl p ∧ cl p ≤ 5 := by
  unfold cl
  split
  · split <;> omega
  · split
    · split
      · omega
      · split <;> omega
    · omega
end Go.Proofs.YtjkgnbdeklploaaGreat
namespace Go.Rn
open Go.Wd Go.Pt
theorem szF_low {F G E : Int} (h1 : F ≤ G) (h2 : G ≤ E) (X : Nat) : szF F E X = szF G E X * 2 ^ (G - F).toNat := by
  unfold szF
  rw [Nat.mul_assoc, ← Nat.pow_add]
  congr 2
  omega
theorem sgI_mul (n : Bool) (A K : Nat) : sgI n (A * K) = sgI n A * (K : Int) := by
  cases n
  · simp [sgI]
  · simp only [sgI, Int.natCast_mul]; rw [Int.neg_mul]
theorem smI_low {F G Ex Ey : Int} (h1 : F ≤ G) (h2 : G ≤ Ex) (h3 : G ≤ Ey) (nx ny : Bool) (X Y : Nat) : smI F nx Ex X ny Ey Y = smI G nx Ex X ny Ey Y * ((2 ^ (G - F).toNat : Nat) : Int) := by
  unfold smI
  rw [szF_low h1 h2, szF_low h1 h3, sgI_mul, sgI_mul, Int.add_mul]
theorem sgS_mul (m : Int) (nx ny : Bool) (S : Int) {K : Nat} (hK : 0 < K) : sgS m nx ny (S * (K : Int)) = sgS m nx ny S := by
  have hk : (0 : Int) < (K : Int) := by omega
  have e0 : S * (K : Int) = 0 ↔ S = 0 := by rw [Int.mul_eq_zero]; omega
  have e1 : S * (K : Int) < 0 ↔ S < 0 := by
    constructor
    · intro h
      rcases Int.lt_or_le S 0 with h1 | h1
      · exact h1
      · have := Int.mul_nonneg h1 (Int.le_of_lt hk); omega
    · intro h; exact Int.mul_neg_of_neg_of_pos h hk
  unfold sgS
  simp only [e0, e1]
/-- what was told in units is rounded as the sum itself -/
theorem xu_round {G Ex Ey : Int} {X Y : Nat} (hX : May Ex X) (hY : May Ey Y) (hx : G ≤ Ex) (hy : G ≤ Ey) (k m : Int) (n nx ny : Bool) :
    rnP k n (2 * xuQ nx Ex X ny Ey Y + bN (xuB nx Ex X ny Ey Y)) (unN Ex X Ey Y - 1) = rnP k n (smI G nx Ex X ny Ey Y).natAbs G
    ∧ rnF k n (2 * xuQ nx Ex X ny Ey Y + bN (xuB nx Ex X ny Ey Y)) (unN Ex X Ey Y - 1) = rnF k n (smI G nx Ex X ny Ey Y).natAbs G
    ∧ xuN m nx Ex X ny Ey Y = sgS m nx ny (smI G nx Ex X ny Ey Y) := by
  obtain ⟨F, hF⟩ : ∃ F, F = min (unN Ex X Ey Y) G := ⟨_, rfl⟩
  have h1 : F ≤ unN Ex X Ey Y := by omega
  have h2 : F ≤ G := by omega
  obtain ⟨a, b, c⟩ := xu_sum hX hY h1 (by omega) (by omega) m nx ny
  have hK : 0 < 2 ^ (G - F).toNat := Nat.pow_pos (by omega)
  have es := smI_low (X := X) (Y := Y) h2 hx hy nx ny
  have ea : (smI F nx Ex X ny Ey Y).natAbs = (smI G nx Ex X ny Ey Y).natAbs * 2 ^ (G - F).toNat := by rw [es, Int.natAbs_mul, Int.natAbs_natCast]
  obtain ⟨p, q⟩ := stk_round (m := k) (neg := n) (F := F) b
  have eu : F + ((unN Ex X Ey Y - F).toNat : Int) - 1 = unN Ex X Ey Y - 1 := by omega
  have eG : G - ((G - F).toNat : Int) = F := by omega
  have sp := rnP_scale k n (smI G nx Ex X ny Ey Y).natAbs (G - F).toNat G
  have sf := rnF_scale k n (smI G nx Ex X ny Ey Y).natAbs (G - F).toNat G
  rw [eG, ← ea] at sp sf
  rw [eu] at p q
  refine ⟨by rw [a, p, sp], by rw [a, q, sf], ?_⟩
  rw [c, es, sgS_mul m nx ny _ hK]
/-! ### patterns -/
/-- a finite pattern's size, in units of 2^-1074 -/
def uV (p : Int) : Nat := szF (-1074) (xp p) (sg p).toNat
def pvI (p : Int) : Int := sgI (sgn p) (uV p)
def psI (a b : Int) : Int := pvI a + pvI b
theorem xp_bd (p : Int) : -1074 ≤ xp p ∧ xp p ≤ 972 := by
  have := ex_lt p
  unfold xp
  split
  · omega
  · split <;> omega
theorem sg_lt (p : Int) : 0 ≤ sg p ∧ sg p < 9007199254740992 := by
  have := fr_lt p
  unfold sg
  split
  · omega
  · split <;> omega
theorem may_pat (p : Int) : May (xp p) (sg p).toNat := by
  have h1 := xp_bd p
  have h2 := sg_lt p
  refine ⟨?_, by omega, by omega⟩
  have : (2 : Nat) ^ 128 = 340282366920938463463374607431768211456 := rfl
  omega
def adN (m a b : Int) : Bool := sgS m (sgn a) (sgn b) (psI a b)
def adP (m a b : Int) : Int := rnP m (adN m a b) (psI a b).natAbs (-1074)
def adF (m a b : Int) : Int := rnF m (adN m a b) (psI a b).natAbs (-1074)
theorem psI_comm (a b : Int) : psI a b = psI b a := by unfold psI; omega
theorem sgS_comm (m : Int) (nx ny : Bool) (S : Int) : sgS m nx ny S = sgS m ny nx S := by
  have e : (if nx = ny then nx else decide (m = 4)) = (if ny = nx then ny else decide (m = 4)) := by cases nx <;> cases ny <;> rfl
  unfold sgS
  rw [e]
theorem adN_comm (m a b : Int) : adN m a b = adN m b a := by unfold adN; rw [psI_comm, sgS_comm]
theorem ad_comm (m a b : Int) : adP m a b = adP m b a ∧ adF m a b = adF m b a := by unfold adP adF; rw [adN_comm, psI_comm]; exact ⟨rfl, rfl⟩
/-- the other sign -/
def ng (p : Int) : Int := (p + 9223372036854775808) % 18446744073709551616
theorem ng_parts {p : Int} (hp : U p) : U (ng p) ∧ sgn (ng p) = !sgn p ∧ ex (ng p) = ex p ∧ fr (ng p) = fr p ∧ mag (ng p) = mag p := by
  unfold U at hp
  unfold ng U sgn ex fr mag
  refine ⟨by omega, ?_, by omega, by omega, by omega⟩
  by_cases h : 9223372036854775808 ≤ p
  · rw [decide_eq_true h, decide_eq_false (by omega)]; rfl
  · rw [decide_eq_false h, decide_eq_true (by omega)]; rfl
theorem ad_bd (m a b : Int) : 0 ≤ adP m a b ∧ adP m a b ≤ 9218868437227405312 := rnP_bd _ _ _ _
end Go.Rn
namespace Go.Proofs.YtjkgnbdeklploaaGreat
open Go.KRun Go.Wd Go.Pt Go.Rn
set_option maxRecDepth 100000
/-- what is known of calls: rounding, a pattern's parts, its class -/
def conG0 : Con := alt 40 gRd (alt 49 (gU vT) (alt 47 (gU fun p => .int .i64 (cl p)) conN))
theorem conG0_ok : ConOk conG0 := alt_ok Tryz.func40 rfl gRd_ok (alt_ok Tryz.func49 rfl take_ok (alt_ok Tryz.func47 rfl cls_ok conN_ok))
def wSg (p : Int) : W4 := ⟨sg p, 0, 0, 0⟩
def lp0 : Bool × Bool := (decide ((0 : Int) < ((2 : Nat) : Int)), true)
def lp1 : Bool × Bool := (decide (IntKind.i64.wrap (0 + 1) < ((2 : Nat) : Int)), true)
def lp2 : Bool × Bool := (decide (IntKind.i64.wrap (IntKind.i64.wrap (0 + 1) + 1) < ((2 : Nat) : Int)), false)
/-! ### its numbers -/
theorem wSg_ok (p : Int) : (wSg p).ok := by
  have h := sg_lt p
  exact ⟨⟨h.1, by unfold wSg; dsimp only; omega⟩, ⟨by unfold wSg; dsimp only; omega, by unfold wSg; dsimp only; omega⟩, ⟨by unfold wSg; dsimp only; omega, by unfold wSg; dsimp only; omega⟩, ⟨by unfold wSg; dsimp only; omega, by unfold wSg; dsimp only; omega⟩⟩
theorem wSg_nat (p : Int) : (wSg p).nat = (sg p).toNat := by
  unfold W4.nat W4.val wSg
  simp only [Int.mul_zero, Int.add_zero]
theorem tw_of {q : Nat} (h : q < 2 ^ 256) (b : Bool) : tw (ofN q) b = 2 * q + bN b := by
  unfold tw
  rw [ofN_nat h]
  cases b <;> rfl
/-- the unit may be far away -/
theorem clp_round (k : Int) (n : Bool) {x : W4} (hx : x.ok) (b : Bool) (u : Int) : rnP k n (tw x b) (clp u - 1) = rnP k n (tw x b) (u - 1) ∧ rnF k n (tw x b) (clp u - 1) = rnF k n (tw x b) (u - 1) := by
  have h1 := same_round (m := k) (neg := n) hx b (C := clp u) (D := u) (by unfold clp; split <;> (try split) <;> omega)
  have h2 := same_round (m := k) (neg := n) hx b (C := u) (D := u) (.inl rfl)
  exact ⟨by rw [h1.1, h2.1], by rw [h1.2, h2.2]⟩
def conA0 : Con := alt 39 gEx conG0
theorem conA0_ok : ConOk conA0 := alt_ok Tryz.func39 rfl gEx_ok conG0_ok
theorem ad_nTT (a b m : Int) : Fits (reckon (tabOf Tryz.prog extY conA0 true) 300 29 [.int .u64 a, .int .u64 b, .int .i64 m] [cmp true, cmp true, cmp true, cmp true, cmp true, cmp false]) (rdT 9221120237041090560 1) [lp2, (cl b == 5, true), lU b, lp1, (cl a == 5, true), lU a, (decide (cl a > 3), true), lU a, lp0] := ⟨by kernel_rfl, by kernel_rfl, by kernel_rfl, by kernel_rfl⟩
theorem ad_nTF (a b m : Int) : Fits (reckon (tabOf Tryz.prog extY conA0 true) 300 29 [.int .u64 a, .int .u64 b, .int .i64 m] [cmp true, cmp true, cmp true, cmp true, cmp false, cmp false]) (rdT 9221120237041090560 1) [lp2, (cl b == 5, false), lU b, lp1, (cl a == 5, true), lU a, (decide (cl a > 3), true), lU a, lp0] := ⟨by kernel_rfl, by kernel_rfl, by kernel_rfl, by kernel_rfl⟩
theorem ad_nFT (a b m : Int) : Fits (reckon (tabOf Tryz.prog extY conA0 true) 300 29 [.int .u64 a, .int .u64 b, .int .i64 m] [cmp true, cmp true, cmp false, cmp true, cmp true, cmp false]) (rdT 9221120237041090560 1) [lp2, (cl b == 5, true), lU b, lp1, (cl a == 5, false), lU a, (decide (cl a > 3), true), lU a, lp0] := ⟨by kernel_rfl, by kernel_rfl, by kernel_rfl, by kernel_rfl⟩
theorem ad_nFF (a b m : Int) : Fits (reckon (tabOf Tryz.prog extY conA0 true) 300 29 [.int .u64 a, .int .u64 b, .int .i64 m] [cmp true, cmp true, cmp false, cmp true, cmp false, cmp false]) (rdT 9221120237041090560 0) [lp2, (cl b == 5, false), lU b, lp1, (cl a == 5, false), lU a, (decide (cl a > 3), true), lU a, lp0] := ⟨by kernel_rfl, by kernel_rfl, by kernel_rfl, by kernel_rfl⟩
theorem ad_mT (a b m : Int) : Fits (reckon (tabOf Tryz.prog extY conA0 true) 300 29 [.int .u64 a, .int .u64 b, .int .i64 m] [cmp true, cmp false, cmp false, cmp true, cmp true, cmp true, cmp false]) (rdT 9221120237041090560 1) [lp2, (cl b == 5, true), lU b, (decide (cl b > 3), true), lU b, lp1, (cl a == 5, false), lU a, (decide (cl a > 3), false), lU a, lp0] := ⟨by kernel_rfl, by kernel_rfl, by kernel_rfl, by kernel_rfl⟩
theorem ad_mF (a b m : Int) : Fits (reckon (tabOf Tryz.prog extY conA0 true) 300 29 [.int .u64 a, .int .u64 b, .int .i64 m] [cmp true, cmp false, cmp false, cmp true, cmp true, cmp false, cmp false]) (rdT 9221120237041090560 0) [lp2, (cl b == 5, false), lU b, (decide (cl b > 3), true), lU b, lp1, (cl a == 5, false), lU a, (decide (cl a > 3), false), lU a, lp0] := ⟨by kernel_rfl, by kernel_rfl, by kernel_rfl, by kernel_rfl⟩
theorem ad_ii (a b m : Int) : Fits (reckon (tabOf Tryz.prog extY conA0 true) 300 29 [.int .u64 a, .int .u64 b, .int .i64 m] [cmp true, cmp false, cmp false, cmp true, cmp false, cmp false, cmp false, cmp true, cmp true, cmp true]) (rdT 9221120237041090560 1) [(a != b, true), (cl b == 3, true), lU b, (cl a == 3, true), lU a, lp2, (cl b == 5, false), lU b, (decide (cl b > 3), false), lU b, lp1, (cl a == 5, false), lU a, (decide (cl a > 3), false), lU a, lp0] := ⟨by kernel_rfl, by kernel_rfl, by kernel_rfl, by kernel_rfl⟩
theorem ad_is (a b m : Int) : Fits (reckon (tabOf Tryz.prog extY conA0 true) 300 29 [.int .u64 a, .int .u64 b, .int .i64 m] [cmp true, cmp false, cmp false, cmp true, cmp false, cmp false, cmp false, cmp true, cmp true, cmp false, cmp true]) (rdT a 0) [(cl a == 3, true), lU a, (a != b, false), (cl b == 3, true), lU b, (cl a == 3, true), lU a, lp2, (cl b == 5, false), lU b, (decide (cl b > 3), false), lU b, lp1, (cl a == 5, false), lU a, (decide (cl a > 3), false), lU a, lp0] := ⟨by kernel_rfl, by kernel_rfl, by kernel_rfl, by kernel_rfl⟩
theorem ad_ia (a b m : Int) : Fits (reckon (tabOf Tryz.prog extY conA0 true) 300 29 [.int .u64 a, .int .u64 b, .int .i64 m] [cmp true, cmp false, cmp false, cmp true, cmp false, cmp false, cmp false, cmp true, cmp false, cmp true]) (rdT a 0) [(cl a == 3, true), lU a, (cl b == 3, false), lU b, (cl a == 3, true), lU a, lp2, (cl b == 5, false), lU b, (decide (cl b > 3), false), lU b, lp1, (cl a == 5, false), lU a, (decide (cl a > 3), false), lU a, lp0] := ⟨by kernel_rfl, by kernel_rfl, by kernel_rfl, by kernel_rfl⟩
theorem ad_ib (a b m : Int) : Fits (reckon (tabOf Tryz.prog extY conA0 true) 300 29 [.int .u64 a, .int .u64 b, .int .i64 m] [cmp true, cmp false, cmp false, cmp true, cmp false, cmp false, cmp false, cmp false, cmp false, cmp true]) (rdT b 0) [(cl b == 3, true), lU b, (cl a == 3, false), lU a, (cl a == 3, false), lU a, lp2, (cl b == 5, false), lU b, (decide (cl b > 3), false), lU b, lp1, (cl a == 5, false), lU a, (decide (cl a > 3), false), lU a, lp0] := ⟨by kernel_rfl, by kernel_rfl, by kernel_rfl, by kernel_rfl⟩
theorem ad_fin (a b m : Int) : Fits (reckon (tabOf Tryz.prog extY conA0 true) 300 29 [.int .u64 a, .int .u64 b, .int .i64 m] [cmp true, cmp false, cmp false, cmp true, cmp false, cmp false, cmp false, cmp false, cmp false, cmp false, cmp true, cmp true]) (rdV m (xuN m (sgn a) (xp a) (wSg a).nat (sgn b) (xp b) (wSg b).nat) (tw (ofN (xuQ (sgn a) (xp a) (wSg a).nat (sgn b) (xp b) (wSg b).nat)) (xuB (sgn a) (xp a) (wSg a).nat (sgn b) (xp b) (wSg b).nat)) (clp (unN (xp a) (wSg a).nat (xp b) (wSg b).nat) - 1)) [(decide (ofN (xuQ (sgn a) (xp a) (wSg a).nat (sgn b) (xp b) (wSg b).nat)).ok, true), (okEx (xp a) (wSg a) false (xp b) (wSg b) false, true), lU b, (decide (cl b ≤ 2), true), lU b, lU a, (decide (cl a ≤ 2), true), lU a, (cl b == 3, false), lU b, (cl a == 3, false), lU a, (cl a == 3, false), lU a, lp2, (cl b == 5, false), lU b, (decide (cl b > 3), false), lU b, lp1, (cl a == 5, false), lU a, (decide (cl a > 3), false), lU a, lp0] := ⟨by kernel_rfl, by kernel_rfl, by kernel_rfl, by kernel_rfl⟩
/-- what Exact answers is rounded as the exact sum -/
theorem xu_rd (k m : Int) {G Ex Ey : Int} {X Y : Nat} (hX : May Ex X) (hY : May Ey Y) (hx : G ≤ Ex) (hy : G ≤ Ey) (nx ny : Bool) :
    rdV k (xuN m nx Ex X ny Ey Y) (tw (ofN (xuQ nx Ex X ny Ey Y)) (xuB nx Ex X ny Ey Y)) (clp (unN Ex X Ey Y) - 1) = rdV k (sgS m nx ny (smI G nx Ex X ny Ey Y)) (smI G nx Ex X ny Ey Y).natAbs G := by
  have hq := xuQ_lt nx Ex X ny Ey Y
  have e : (2 : Nat) ^ 256 = 2 * 2 ^ 255 := rfl
  obtain ⟨c1, c2⟩ := clp_round k (xuN m nx Ex X ny Ey Y) (ofN_ok (xuQ nx Ex X ny Ey Y)) (xuB nx Ex X ny Ey Y) (unN Ex X Ey Y)
  obtain ⟨p, q, r⟩ := xu_round hX hY hx hy k m (xuN m nx Ex X ny Ey Y) nx ny
  unfold rdV
  rw [c1, c2, tw_of (by omega), p, q, r]
/-- what Add answers -/
def suP (m a b : Int) : Int := if 3 < cl a ∨ 3 < cl b then 9221120237041090560 else if cl a = 3 then (if cl b = 3 ∧ a ≠ b then 9221120237041090560 else a) else if cl b = 3 then b else sS (adN m a b) (adP m a b)
def suF (m a b : Int) : Int := if 3 < cl a ∨ 3 < cl b then (if cl a = 5 ∨ cl b = 5 then 1 else 0) else if cl a = 3 then (if cl b = 3 ∧ a ≠ b then 1 else 0) else if cl b = 3 then 0 else adF m a b
def suV (m a b : Int) : Value := rdT (suP m a b) (suF m a b)
theorem sadd_calls (a b m : Int) (ha : U a) (hb : U b) (w : World) : Calls Tryz.prog 29 #[.int .u64 a, .int .u64 b, .int .i64 m] w fun r w' => r = .returned (suV m a b) ∧ Tidy w w' := by
  have hv : ([.int .u64 a, .int .u64 b, .int .i64 m].all (lt 0)) = true := rfl
  have ka : decide (U a) = true := decide_eq_true ha
  have kb : decide (U b) = true := decide_eq_true hb
  have k0 : lp0.1 = lp0.2 := by decide
  have k1 : lp1.1 = lp1.2 := by decide
  have k2 : lp2.1 = lp2.2 := by decide
  have ba := cl_bd a
  have bb := cl_bd b
  unfold suV suP suF
  by_cases hna : 3 < cl a
  · have g1 : decide (cl a > 3) = true := decide_eq_true hna
    rw [if_pos (.inl hna), if_pos (.inl hna)]
    have mk : ∀ {d e : Bool}, (cl a == 5) = d → (cl b == 5) = e → okLog [lp2, (cl b == 5, e), lU b, lp1, (cl a == 5, d), lU a, (decide (cl a > 3), true), lU a, lp0] := fun h1 h2 =>
      okCons k2 (okCons h2 (okCons kb (okCons k1 (okCons h1 (okCons ka (okCons g1 (okCons ka (okL1 k0))))))))
    by_cases ca : cl a = 5 <;> by_cases cb : cl b = 5
    · rw [if_pos (.inl ca)]; exact fits_calls (tabY_ok conA0_ok) (ad_nTT a b m) (mk (beq_t ca) (beq_t cb)) hv (by rfl) w
    · rw [if_pos (.inl ca)]; exact fits_calls (tabY_ok conA0_ok) (ad_nTF a b m) (mk (beq_t ca) (beq_f cb)) hv (by rfl) w
    · rw [if_pos (.inr cb)]; exact fits_calls (tabY_ok conA0_ok) (ad_nFT a b m) (mk (beq_f ca) (beq_t cb)) hv (by rfl) w
    · rw [if_neg (by omega)]; exact fits_calls (tabY_ok conA0_ok) (ad_nFF a b m) (mk (beq_f ca) (beq_f cb)) hv (by rfl) w
  · have g1 : decide (cl a > 3) = false := decide_eq_false hna
    have ca : (cl a == 5) = false := beq_f (by omega)
    by_cases hnb : 3 < cl b
    · have g2 : decide (cl b > 3) = true := decide_eq_true hnb
      rw [if_pos (.inr hnb), if_pos (.inr hnb)]
      by_cases cb : cl b = 5
      · rw [if_pos (.inr cb)]
        exact fits_calls (tabY_ok conA0_ok) (ad_mT a b m) (okCons k2 (okCons (beq_t cb) (okCons kb (okCons g2 (okCons kb (okCons k1 (okCons ca (okCons ka (okCons g1 (okCons ka (okL1 k0))))))))))) hv (by rfl) w
      · rw [if_neg (by omega)]
        exact fits_calls (tabY_ok conA0_ok) (ad_mF a b m) (okCons k2 (okCons (beq_f cb) (okCons kb (okCons g2 (okCons kb (okCons k1 (okCons ca (okCons ka (okCons g1 (okCons ka (okL1 k0))))))))))) hv (by rfl) w
    · have g2 : decide (cl b > 3) = false := decide_eq_false hnb
      have cb : (cl b == 5) = false := beq_f (by omega)
      have lN : okLog [lp2, (cl b == 5, false), lU b, (decide (cl b > 3), false), lU b, lp1, (cl a == 5, false), lU a, (decide (cl a > 3), false), lU a, lp0] :=
        okCons k2 (okCons cb (okCons kb (okCons g2 (okCons kb (okCons k1 (okCons ca (okCons ka (okCons g1 (okCons ka (okL1 k0))))))))))
      have hno : ¬ (3 < cl a ∨ 3 < cl b) := by omega
      rw [if_neg hno, if_neg hno]
      by_cases ea : cl a = 3
      · rw [if_pos ea, if_pos ea]
        by_cases eb : cl b = 3
        · by_cases hab : a = b
          · rw [if_neg (fun h => h.2 hab), if_neg (fun h => h.2 hab)]
            exact fits_calls (tabY_ok conA0_ok) (ad_is a b m) (okCons (beq_t ea) (okCons ka (okCons (bne_f hab) (okCons (beq_t eb) (okCons kb (okCons (beq_t ea) (okCons ka lN))))))) hv (by rfl) w
          · rw [if_pos ⟨eb, hab⟩, if_pos ⟨eb, hab⟩]
            exact fits_calls (tabY_ok conA0_ok) (ad_ii a b m) (okCons (bne_t hab) (okCons (beq_t eb) (okCons kb (okCons (beq_t ea) (okCons ka lN))))) hv (by rfl) w
        · rw [if_neg (fun h => eb h.1), if_neg (fun h => eb h.1)]
          exact fits_calls (tabY_ok conA0_ok) (ad_ia a b m) (okCons (beq_t ea) (okCons ka (okCons (beq_f eb) (okCons kb (okCons (beq_t ea) (okCons ka lN)))))) hv (by rfl) w
      · rw [if_neg ea, if_neg ea]
        by_cases eb : cl b = 3
        · rw [if_pos eb, if_pos eb]
          exact fits_calls (tabY_ok conA0_ok) (ad_ib a b m) (okCons (beq_t eb) (okCons kb (okCons (beq_f ea) (okCons ka (okCons (beq_f ea) (okCons ka lN)))))) hv (by rfl) w
        · rw [if_neg eb, if_neg eb]
          have mA : May (xp a) (wSg a).nat := by rw [wSg_nat]; exact may_pat a
          have mB : May (xp b) (wSg b).nat := by rw [wSg_nat]; exact may_pat b
          have kE : okEx (xp a) (wSg a) false (xp b) (wSg b) false = true := decide_eq_true ⟨wSg_ok a, wSg_ok b, rfl, rfl, (may_iff (wSg_ok a)).2 mA, (may_iff (wSg_ok b)).2 mB⟩
          have fa : decide (cl a ≤ 2) = true := decide_eq_true (by omega)
          have fb : decide (cl b ≤ 2) = true := decide_eq_true (by omega)
          have hf := ad_fin a b m
          rw [xu_rd m m mA mB (xp_bd a).1 (xp_bd b).1, wSg_nat, wSg_nat] at hf
          exact fits_calls (tabY_ok conA0_ok) hf (okCons (decide_eq_true (ofN_ok _)) (okCons kE (okCons kb (okCons fb (okCons kb (okCons ka (okCons fa (okCons ka (okCons (beq_f eb) (okCons kb (okCons (beq_f ea) (okCons ka (okCons (beq_f ea) (okCons ka lN)))))))))))))) hv (by rfl) w
def gSA : Ans := fun vals s =>
  match vals with
  | [.int .u64 a, .int .u64 b, .int .i64 m] => some (suV m a b, s, [(decide (U a ∧ U b), true)])
  | _ => none
theorem gSA_ok : AnsOk 29 gSA := by
  intro vals s v s' lg h hl w
  unfold gSA at h
  split at h
  · cases h
    obtain ⟨h1, h2⟩ := of_decide_eq_true (hl _ (List.mem_singleton.2 rfl))
    exact sadd_calls _ _ _ h1 h2 w
  · cases h
end Go.Proofs.YtjkgnbdeklploaaGreat
namespace Go.Proofs.YtjkgnbdeklploaaGreat
open Go.KRun Go.Wd
def lo32 (z : Int) : Int := IntKind.u64.wrap ((BitVec.ofInt 64 z &&& BitVec.ofInt 64 4294967295).toNat : Nat)
def hi32 (z : Int) : Int := z.fdiv (2 ^ min ((32 : Int).toNat) 64)
def l32 : Bool × Bool := (decide ((32 : Int) < 0), false)
theorem hi32_eq (z : Int) : hi32 z = z / 4294967296 := by
  unfold hi32
  rw [show (2 : Int) ^ min ((32 : Int).toNat) 64 = 4294967296 from rfl, Int.fdiv_eq_ediv_of_nonneg _ (by omega)]
theorem lo32_eq {z : Int} (h0 : 0 ≤ z) (h1 : z < 18446744073709551616) : lo32 z = z % 4294967296 := by
  unfold lo32
  have e1 : (BitVec.ofInt 64 z).toNat = z.toNat := by
    rw [BitVec.toNat_ofInt]
    omega
  have e2 : (BitVec.ofInt 64 4294967295).toNat = 2 ^ 32 - 1 := by rfl
  rw [BitVec.toNat_and, e1, e2, Nat.and_two_pow_sub_one_eq_mod, wrap_u64]
  omega
def mT (x y : Int) : Int := IntKind.u64.wrap (IntKind.u64.wrap (hi32 x * lo32 y) + hi32 (IntKind.u64.wrap (lo32 x * lo32 y)))
def mW (x y : Int) : Int := IntKind.u64.wrap (lo32 (mT x y) + IntKind.u64.wrap (lo32 x * hi32 y))
def mH (x y : Int) : Int := IntKind.u64.wrap (IntKind.u64.wrap (IntKind.u64.wrap (hi32 x * hi32 y) + hi32 (mT x y)) + hi32 (mW x y))
def mL (x y : Int) : Int := IntKind.u64.wrap (x * y)
abbrev u_ (n : Int) : Value := .int .u64 n
theorem mul64_fits (x y : Int) : Fits (reckon (tabOf Tryz.prog extY conN true) 3000 44 [u_ x, u_ y] []) (.tuple #[u_ (mH x y), u_ (mL x y)]) [l32, l32, l32, l32, l32] := ⟨by kernel_rfl, by kernel_rfl, by kernel_rfl, by kernel_rfl⟩
theorem mul_split (x y : Int) (hx : 0 ≤ x ∧ x < 18446744073709551616) (hy : 0 ≤ y ∧ y < 18446744073709551616) : mH x y = x * y / 18446744073709551616 ∧ mL x y = x * y % 18446744073709551616 := by
  refine ⟨?_, by unfold mL; rw [wrap_u64]⟩
  have x0 : 0 ≤ x % 4294967296 ∧ x % 4294967296 < 4294967296 := by omega
  have y0 : 0 ≤ y % 4294967296 ∧ y % 4294967296 < 4294967296 := by omega
  have x1 : 0 ≤ x / 4294967296 ∧ x / 4294967296 < 4294967296 := by omega
  have y1 : 0 ≤ y / 4294967296 ∧ y / 4294967296 < 4294967296 := by omega
  have bd : ∀ p q : Int, (0 ≤ p ∧ p < 4294967296) → (0 ≤ q ∧ q < 4294967296) → 0 ≤ p * q ∧ p * q ≤ 18446744065119617025 := fun p q hp hq => by
    refine ⟨Int.mul_nonneg hp.1 hq.1, ?_⟩
    have := Int.mul_le_mul (show p ≤ 4294967295 by omega) (show q ≤ 4294967295 by omega) hq.1 (by omega)
    omega
  have ex : x * y = 18446744073709551616 * (x / 4294967296 * (y / 4294967296)) + 4294967296 * (x / 4294967296 * (y % 4294967296)) + 4294967296 * (x % 4294967296 * (y / 4294967296)) + x % 4294967296 * (y % 4294967296) := by
    have h1 := Int.mul_ediv_add_emod x 4294967296
    have h2 := Int.mul_ediv_add_emod y 4294967296
    generalize x / 4294967296 = p at *
    generalize x % 4294967296 = q at *
    generalize y / 4294967296 = r at *
    generalize y % 4294967296 = s at *
    rw [← h1, ← h2, Int.add_mul, Int.mul_add, Int.mul_add, Int.mul_assoc, Int.mul_left_comm p, Int.mul_left_comm q, Int.mul_assoc]
    omega
  have a1 := bd _ _ x0 y0
  have a2 := bd _ _ x1 y0
  have a3 := bd _ _ x0 y1
  have a4 := bd _ _ x1 y1
  unfold mH mW mT
  simp only [hi32_eq, lo32_eq hx.1 hx.2, lo32_eq hy.1 hy.2]
  generalize x / 4294967296 * (y / 4294967296) = d at *
  generalize x / 4294967296 * (y % 4294967296) = b at *
  generalize x % 4294967296 * (y / 4294967296) = c at *
  generalize x % 4294967296 * (y % 4294967296) = a at *
  rw [ex]
  have w1 : IntKind.u64.wrap a = a := wrap_u64' (by omega) (by omega)
  have w2 : IntKind.u64.wrap b = b := wrap_u64' (by omega) (by omega)
  have w3 : IntKind.u64.wrap c = c := wrap_u64' (by omega) (by omega)
  have w4 : IntKind.u64.wrap d = d := wrap_u64' (by omega) (by omega)
  have w5 : IntKind.u64.wrap (b + a / 4294967296) = b + a / 4294967296 := wrap_u64' (by omega) (by omega)
  rw [w1, w2, w3, w4, w5, lo32_eq (z := b + a / 4294967296) (by omega) (by omega)]
  rw [wrap_u64' (n := (b + a / 4294967296) % 4294967296 + c) (by omega) (by omega), wrap_u64' (n := d + (b + a / 4294967296) / 4294967296) (by omega) (by omega), wrap_u64' (by omega) (by omega)]
  omega
theorem l32_ok : l32.1 = l32.2 := rfl
abbrev word (x : Int) : Prop := 0 ≤ x ∧ x < 18446744073709551616
theorem mul64_calls (x y : Int) (hx : word x) (hy : word y) (w : World) : Calls Tryz.prog 44 #[u_ x, u_ y] w fun e w' => e = .returned (.tuple #[u_ (x * y / 18446744073709551616), u_ (x * y % 18446744073709551616)]) ∧ Tidy w w' := by
  have h := fits_calls (tabY_ok conN_ok) (mul64_fits x y) (okCons l32_ok (okCons l32_ok (okCons l32_ok (okCons l32_ok (okL1 l32_ok))))) (by rfl) (by rfl) w
  obtain ⟨e1, e2⟩ := mul_split x y hx hy
  rw [e1, e2] at h
  exact h
end Go.Proofs.YtjkgnbdeklploaaGreat
namespace Go.Proofs.YtjkgnbdeklploaaGreat
open Go.KRun Go.Wd
set_option maxRecDepth 100000
def u1m : Value → Option Int
  | .int .u64 n => some n
  | _ => none
theorem u1m_spec {v : Value} {n : Int} (h : u1m v = some n) : v = u_ n := by
  unfold u1m at h
  split at h
  · cases h; rfl
  · cases h
def gMul : Ans := fun vals s =>
  match vals with
  | [x, y] =>
    match u1m x, u1m y with
    | some a, some b => some (.tuple #[u_ (a * b / 18446744073709551616), u_ (a * b % 18446744073709551616)], s, [(decide (word a ∧ word b), true)])
    | _, _ => none
  | _ => none
theorem gMul_ok : AnsOk 44 gMul := by
  intro vals s v s' lg h hl w
  unfold gMul at h
  split at h
  · split at h
    · rename_i a b ha hb
      cases h
      have h1 := hl _ (List.mem_singleton.2 rfl)
      simp only [decide_eq_true_eq] at h1
      rw [u1m_spec ha, u1m_spec hb]
      exact mul64_calls a b h1.1 h1.2 w
    · cases h
  · cases h
def conM : Con := alt 44 gMul conN
theorem conM_ok : ConOk conM := alt_ok Tryz.func44 rfl gMul_ok conN_ok
def pL (x y m : Int) : Int := Wd.ad (x * y % 18446744073709551616) m 0
def oA (x y c : Int) : Bool × Bool := (decide (0 ≤ x ∧ 0 ≤ y ∧ 0 ≤ c ∧ c ≤ 1), true)
theorem ma_fits (x y m c : Int) : Fits (reckon (tabOf Tryz.prog extY conM true) 3000 95 [u_ x, u_ y, u_ m, u_ c] [])
    (.tuple #[u_ (Wd.ad (pL x y m) c 0), u_ (IntKind.u64.wrap (IntKind.u64.wrap (x * y / 18446744073709551616 + ca (x * y % 18446744073709551616) m 0) + ca (pL x y m) c 0))])
    [oA (pL x y m) c 0, oA (x * y % 18446744073709551616) m 0, (decide (word x ∧ word y), true)] := ⟨by kernel_rfl, by kernel_rfl, by kernel_rfl, by kernel_rfl⟩
theorem ma_arith {x y : Int} (hx : word x) (hy : word y) : 0 ≤ x * y ∧ x * y ≤ 340282366920938463426481119284349108225 := by
  refine ⟨Int.mul_nonneg hx.1 hy.1, ?_⟩
  have := Int.mul_le_mul (show x ≤ 18446744073709551615 by omega) (show y ≤ 18446744073709551615 by omega) hy.1 (by omega)
  omega
theorem ma_calls (x y m c : Int) (hx : word x) (hy : word y) (hm : word m) (hc : word c) (w : World) : Calls Tryz.prog 95 #[u_ x, u_ y, u_ m, u_ c] w fun e w' =>
    e = .returned (.tuple #[u_ ((x * y + m + c) % 18446744073709551616), u_ ((x * y + m + c) / 18446744073709551616)]) ∧ Tidy w w' := by
  have bd := ma_arith hx hy
  have h := fits_calls (tabY_ok conM_ok) (ma_fits x y m c) (okCons (decide_eq_true (by unfold pL Wd.ad; omega)) (okCons (decide_eq_true (by omega)) (okL1 (decide_eq_true ⟨hx, hy⟩)))) (by rfl) (by rfl) w
  have e1 : Wd.ad (pL x y m) c 0 = (x * y + m + c) % 18446744073709551616 := by unfold pL Wd.ad; omega
  have e2 : IntKind.u64.wrap (IntKind.u64.wrap (x * y / 18446744073709551616 + ca (x * y % 18446744073709551616) m 0) + ca (pL x y m) c 0) = (x * y + m + c) / 18446744073709551616 := by
    unfold pL ca Wd.ad
    rw [wrap_u64, wrap_u64]
    omega
  rw [e1, e2] at h
  exact h
def gMA : Ans := fun vals s =>
  match vals with
  | [x, y, m, c] =>
    match u1m x, u1m y, u1m m, u1m c with
    | some x, some y, some m, some c => some (.tuple #[u_ ((x * y + m + c) % 18446744073709551616), u_ ((x * y + m + c) / 18446744073709551616)], s, [(decide (word x ∧ word y ∧ word m ∧ word c), true)])
    | _, _, _, _ => none
  | _ => none
theorem gMA_ok : AnsOk 95 gMA := by
  intro vals s v s' lg h hl w
  unfold gMA at h
  split at h
  · split at h
    · rename_i x y m c hx hy hm hc
      cases h
      have h1 := hl _ (List.mem_singleton.2 rfl)
      simp only [decide_eq_true_eq] at h1
      rw [u1m_spec hx, u1m_spec hy, u1m_spec hm, u1m_spec hc]
      exact ma_calls _ _ _ _ h1.1 h1.2.1 h1.2.2.1 h1.2.2.2 w
    · cases h
  · cases h
def conMA : Con := alt 95 gMA conN
theorem conMA_ok : ConOk conMA := alt_ok Tryz.func95 rfl gMA_ok conN_ok
/-! ### a row of the product, and the product -/
def lo (x y z c : Int) : Int := (x * y + z + c) % 18446744073709551616
def hi (x y z c : Int) : Int := (x * y + z + c) / 18446744073709551616
def rowF (x : Int) : List Int → List Int → Int → List Int
  | y :: ys, z :: zs, c => lo x y z c :: rowF x ys zs (hi x y z c)
  | _, _, c => [c]
def jl (j : Int) : Bool × Bool := (decide (j < 4), true)
def je : Bool × Bool := (decide ((4 : Int) < 4), false)
def wl (x y z c : Int) : Bool × Bool := (decide (word x ∧ word y ∧ word z ∧ word c), true)
def rowG (x : Int) : List Int → List Int → Int → Int → Log → Log
  | y :: ys, z :: zs, c, j, L => rowG x ys zs (hi x y z c) (j + 1) (wl x y z c :: jl j :: L)
  | _, _, _, _, L => je :: L
def rowDm (d : Bool) (x : Int) (ys zs : List Int) : List Int :=
  match d with
  | true => zs ++ [0]
  | false => rowF x ys zs 0
def rowE (d : Bool) (i x : Int) (ys zs : List Int) (L : Log) : Log :=
  match d with
  | true => (x == 0, true) :: jl i :: L
  | false => rowG x ys zs 0 0 ((x == 0, false) :: jl i :: L)
def ysOf (y : W4) : List Int := [y.a, y.b, y.c, y.d]
def r0 (d : Bool) (x y : W4) : List Int := rowDm d x.a (ysOf y) [0, 0, 0, 0]
def r1 (d e : Bool) (x y : W4) : List Int := rowDm e x.b (ysOf y) (r0 d x y).tail
def r2 (d e f : Bool) (x y : W4) : List Int := rowDm f x.c (ysOf y) (r1 d e x y).tail
def r3 (d e f g : Bool) (x y : W4) : List Int := rowDm g x.d (ysOf y) (r2 d e f x y).tail
def hd (l : List Int) : Int := l.headD 0
def w4T (l : List Int) : W4 := ⟨l.getD 0 0, l.getD 1 0, l.getD 2 0, l.getD 3 0⟩
def mulLog (d e f g : Bool) (x y : W4) : Log := je :: rowE g 3 x.d (ysOf y) (r2 d e f x y).tail (rowE f 2 x.c (ysOf y) (r1 d e x y).tail (rowE e 1 x.b (ysOf y) (r0 d x y).tail (rowE d 0 x.a (ysOf y) [0, 0, 0, 0] [])))
def scr (d : Bool) (s : List Dec) : List Dec :=
  match d with
  | true => cmp true :: cmp true :: s
  | false => cmp true :: cmp false :: cmp true :: cmp true :: cmp true :: cmp true :: cmp false :: s
def mulV (d e f g : Bool) (x y : W4) : Value := .tuple #[vW ⟨hd (r0 d x y), hd (r1 d e x y), hd (r2 d e f x y), hd (r3 d e f g x y)⟩, vW (w4T (r3 d e f g x y).tail)]
theorem mul_fits (x y : W4) (d e f g : Bool) : Fits (reckon (tabOf Tryz.prog extY conMA true) 3000 89 [vW x, vW y] (scr d (scr e (scr f (scr g [cmp false]))))) (mulV d e f g x y) (mulLog d e f g x y) := by
  cases d <;> cases e <;> cases f <;> cases g <;> exact ⟨by kernel_rfl, by kernel_rfl, by kernel_rfl, by kernel_rfl⟩
def vB : List Int → Int
  | [] => 0
  | d :: ds => d + 18446744073709551616 * vB ds
def words (l : List Int) : Prop := ∀ d ∈ l, word d
theorem lohi {x y z c : Int} (hx : word x) (hy : word y) (hz : word z) (hc : word c) : word (lo x y z c) ∧ word (hi x y z c) ∧ lo x y z c + 18446744073709551616 * hi x y z c = x * y + z + c := by
  have bd := ma_arith hx hy
  unfold lo hi word at *
  generalize x * y = p at *
  omega
theorem row_spec {x : Int} (hx : word x) : ∀ (ys zs : List Int) (c j : Int) (L : Log), words ys → words zs → word c → ys.length = zs.length → 0 ≤ j → j + ys.length ≤ 4 → okLog L →
    words (rowF x ys zs c) ∧ (rowF x ys zs c).length = ys.length + 1 ∧ vB (rowF x ys zs c) = vB zs + x * vB ys + c ∧ okLog (rowG x ys zs c j L)
  | [], [], c, j, L, _, _, hc, _, _, _, hL => by
    refine ⟨fun d hd => ?_, rfl, by simp [rowF, vB], okCons (by rfl) hL⟩
    simp only [rowF, List.mem_singleton] at hd
    rw [hd]; exact hc
  | y :: ys, z :: zs, c, j, L, hy, hz, hc, hl, h0, hj, hL => by
    have y1 := hy y List.mem_cons_self
    have z1 := hz z List.mem_cons_self
    obtain ⟨e1, e2, e3⟩ := lohi hx y1 z1 hc
    simp only [List.length_cons] at hl hj
    obtain ⟨g1, g2, g3, g4⟩ := row_spec hx ys zs (hi x y z c) (j + 1) (wl x y z c :: jl j :: L) (fun d hd => hy d (List.mem_cons_of_mem _ hd)) (fun d hd => hz d (List.mem_cons_of_mem _ hd)) e2 (by omega) (by omega) (by omega)
      (okCons (decide_eq_true ⟨hx, y1, z1, hc⟩) (okCons (decide_eq_true (by omega : j < 4)) hL))
    refine ⟨fun d hd => ?_, by simp only [rowF, List.length_cons, g2], ?_, g4⟩
    · simp only [rowF] at hd
      rcases List.mem_cons.1 hd with rfl | hd
      · exact e1
      · exact g1 d hd
    · simp only [rowF, vB]
      rw [g3]
      have : x * (y + 18446744073709551616 * vB ys) = x * y + 18446744073709551616 * (x * vB ys) := by rw [Int.mul_add, Int.mul_left_comm]
      rw [this]
      generalize x * vB ys = q at *
      generalize x * y = p at *
      omega
  | [], _ :: _, _, _, _, _, _, _, hl, _, _, _ => by simp at hl
  | _ :: _, [], _, _, _, _, _, _, hl, _, _, _ => by simp at hl
theorem vB_snoc0 : ∀ l : List Int, vB (l ++ [0]) = vB l
  | [] => rfl
  | d :: ds => by simp only [List.cons_append, vB, vB_snoc0 ds]
theorem rowDm_spec {x i : Int} (hx : word x) (hi : i < 4) {ys zs : List Int} (hy : words ys) (hz : words zs) (ly : ys.length = 4) (lz : zs.length = 4) {L : Log} (hL : okLog L) :
    ∃ h t, rowDm (x == 0) x ys zs = h :: t ∧ word h ∧ words t ∧ t.length = 4 ∧ h + 18446744073709551616 * vB t = vB zs + x * vB ys ∧ okLog (rowE (x == 0) i x ys zs L) := by
  have key : words (rowDm (x == 0) x ys zs) ∧ (rowDm (x == 0) x ys zs).length = 5 ∧ vB (rowDm (x == 0) x ys zs) = vB zs + x * vB ys ∧ okLog (rowE (x == 0) i x ys zs L) := by
    have ji : (jl i).1 = (jl i).2 := decide_eq_true hi
    by_cases h : x = 0
    · have hb : (x == 0) = true := beq_iff_eq.2 h
      rw [hb]
      refine ⟨fun d hd => ?_, by simp [rowDm, lz], ?_, okCons hb (okCons ji hL)⟩
      · simp only [rowDm] at hd
        rcases List.mem_append.1 hd with hd | hd
        · exact hz d hd
        · rw [List.mem_singleton.1 hd]; unfold word; omega
      · simp only [rowDm, vB_snoc0]
        rw [h]; omega
    · have hb : (x == 0) = false := beq_eq_false_iff_ne.2 h
      rw [hb]
      obtain ⟨g1, g2, g3, g4⟩ := row_spec hx ys zs 0 0 ((x == 0, false) :: jl i :: L) hy hz (by unfold word; omega) (by omega) (by omega) (by omega) (okCons hb (okCons ji hL))
      exact ⟨g1, by simp only [rowDm]; omega, by simp only [rowDm]; omega, g4⟩
  obtain ⟨k1, k2, k3, k4⟩ := key
  match hr : rowDm (x == 0) x ys zs, k1, k2, k3 with
  | h :: t, k1, k2, k3 =>
    exact ⟨h, t, rfl, k1 h List.mem_cons_self, fun d hd => k1 d (List.mem_cons_of_mem _ hd), by simpa using k2, k3, k4⟩
def mulV4 (x y : W4) : Value := .tuple #[vW (W4.of (x.val * y.val)), vW (W4.of (x.val * y.val / 115792089237316195423570985008687907853269984665640564039457584007913129639936))]
theorem ysOf_val (y : W4) : vB (ysOf y) = y.val := by unfold ysOf W4.val; simp only [vB]; omega
theorem mul_calls (x y : W4) (hx : x.ok) (hy : y.ok) (w : World) : Calls Tryz.prog 89 #[vW x, vW y] w fun e w' => e = .returned (mulV4 x y) ∧ Tidy w w' := by
  obtain ⟨x0, x1, x2, x3⟩ := hx
  have wy : words (ysOf y) := fun d hd => by
    obtain ⟨y0, y1, y2, y3⟩ := hy
    unfold ysOf at hd
    simp only [List.mem_cons, List.not_mem_nil, or_false] at hd
    rcases hd with rfl | rfl | rfl | rfl
    · exact y0
    · exact y1
    · exact y2
    · exact y3
  have wz : words [0, 0, 0, 0] := fun d hd => by
    simp only [List.mem_cons, List.not_mem_nil, or_false, or_self] at hd
    rw [hd]; unfold word; omega
  obtain ⟨h0, t0, e0, a0, b0, l0, v0, g0⟩ := rowDm_spec (x := x.a) (i := 0) x0 (by omega) wy wz rfl rfl okNil
  obtain ⟨h1, t1, e1, a1, b1, l1, v1, g1⟩ := rowDm_spec (x := x.b) (i := 1) x1 (by omega) wy b0 rfl l0 g0
  obtain ⟨h2, t2, e2, a2, b2, l2, v2, g2⟩ := rowDm_spec (x := x.c) (i := 2) x2 (by omega) wy b1 rfl l1 g1
  obtain ⟨h3, t3, e3, a3, b3, l3, v3, g3⟩ := rowDm_spec (x := x.d) (i := 3) x3 (by omega) wy b2 rfl l2 g2
  have E0 : r0 (x.a == 0) x y = h0 :: t0 := e0
  have E1 : r1 (x.a == 0) (x.b == 0) x y = h1 :: t1 := by unfold r1; rw [E0]; exact e1
  have E2 : r2 (x.a == 0) (x.b == 0) (x.c == 0) x y = h2 :: t2 := by unfold r2; rw [E1]; exact e2
  have E3 : r3 (x.a == 0) (x.b == 0) (x.c == 0) (x.d == 0) x y = h3 :: t3 := by unfold r3; rw [E2]; exact e3
  have h := fits_calls (tabY_ok conMA_ok) (mul_fits x y (x.a == 0) (x.b == 0) (x.c == 0) (x.d == 0)) (by
    unfold mulLog
    rw [E0, E1, E2]
    exact okCons (by rfl) g3) (by rfl) (by rfl) w
  have hv : mulV (x.a == 0) (x.b == 0) (x.c == 0) (x.d == 0) x y = mulV4 x y := by
    unfold mulV mulV4
    rw [E0, E1, E2, E3]
    match t3, l3, b3, v3 with
    | [q0, q1, q2, q3], _, b3, v3 =>
      simp only [hd, List.headD_cons, List.tail_cons, w4T, List.getD_cons_zero, List.getD_cons_succ]
      have ok1 : (⟨h0, h1, h2, h3⟩ : W4).ok := ⟨a0, a1, a2, a3⟩
      have ok2 : (⟨q0, q1, q2, q3⟩ : W4).ok := ⟨b3 q0 (by simp), b3 q1 (by simp), b3 q2 (by simp), b3 q3 (by simp)⟩
      have key : x.val * y.val = (⟨h0, h1, h2, h3⟩ : W4).val + 115792089237316195423570985008687907853269984665640564039457584007913129639936 * (⟨q0, q1, q2, q3⟩ : W4).val := by
        rw [ysOf_val] at v0 v1 v2 v3
        rw [val_mul x y.val]
        generalize x.a * y.val = p0 at *
        generalize x.b * y.val = p1 at *
        generalize x.c * y.val = p2 at *
        generalize x.d * y.val = p3 at *
        simp only [vB] at v0 v1 v2 v3
        unfold W4.val
        dsimp only
        omega
      have bd1 := W4.val_bd ok1
      have eL : W4.of (x.val * y.val) = ⟨h0, h1, h2, h3⟩ := W4.of_eq ok1 key
      have eH : x.val * y.val / 115792089237316195423570985008687907853269984665640564039457584007913129639936 = (⟨q0, q1, q2, q3⟩ : W4).val := by rw [key]; omega
      rw [eL, eH, W4.of_val ok2]
  rw [hv] at h
  exact h
end Go.Proofs.YtjkgnbdeklploaaGreat
namespace Go.Rn
open Go.Wd Go.Pt
/-- a product's sign, size and power -/
def prN (a b : Int) : Bool := sgn a != sgn b
def prV (a b : Int) : Nat := (sg a).toNat * (sg b).toNat
def prE (a b : Int) : Int := xp a + xp b
theorem prE_bd (a b : Int) : -2148 ≤ prE a b ∧ prE a b ≤ 1944 := by
  have h1 := xp_bd a
  have h2 := xp_bd b
  unfold prE
  omega
theorem prV_lt (a b : Int) : prV a b < 81129638414606681695789005144064 := by
  have h1 := sg_lt a
  have h2 := sg_lt b
  have := Nat.mul_le_mul (show (sg a).toNat ≤ 9007199254740991 by omega) (show (sg b).toNat ≤ 9007199254740991 by omega)
  unfold prV
  omega
theorem may_prod (a b : Int) : May (prE a b) (prV a b) := by
  have h1 := prE_bd a b
  have h2 := prV_lt a b
  refine ⟨?_, by omega, by omega⟩
  have : (2 : Nat) ^ 128 = 340282366920938463463374607431768211456 := rfl
  omega
/-- the product and a third number, in units of 2^-2148; its sign; rounded -/
def fsI (a b c : Int) : Int := smI (-2148) (prN a b) (prE a b) (prV a b) (sgn c) (xp c) (sg c).toNat
def fsN (m a b c : Int) : Bool := sgS m (prN a b) (sgn c) (fsI a b c)
def fsP (m a b c : Int) : Int := rnP m (fsN m a b c) (fsI a b c).natAbs (-2148)
def fsF (m a b c : Int) : Int := rnF m (fsN m a b c) (fsI a b c).natAbs (-2148)
theorem fs_bd (m a b c : Int) : 0 ≤ fsP m a b c ∧ fsP m a b c ≤ 9218868437227405312 := rnP_bd _ _ _ _
/-! ### with nothing added -/
/-! ### times 1 -/
/-! ### the other sign -/
/-! ### a pattern that was rounded, as a number -/
/-! ### what rounding to the nearest left -/
end Go.Rn
namespace Go.Proofs.YtjkgnbdeklploaaGreat
open Go.KRun Go.Wd Go.Pt Go.Rn
set_option maxRecDepth 100000
def conP0 : Con := alt 89 (g2 (plain2 mulV4)) (alt 29 gSA conA0)
theorem conP0_ok : ConOk conP0 := alt_ok Tryz.func89 rfl (plain2_ok mul_calls) (alt_ok Tryz.func29 rfl gSA_ok conA0_ok)
/-! ### 0 times Endless -/
def badB (a b : Int) : Bool := decide ((cl a = 0 ∧ cl b = 3) ∨ (cl a = 3 ∧ cl b = 0))
theorem nb_tt (a b : Int) : Fits (reckon (tabOf Tryz.prog extY conP0 true) 300 68 [.int .u64 a, .int .u64 b] [cmp true, cmp true]) (.bool true) [(cl b == 3, true), lU b, (cl a == 0, true), lU a] := ⟨by kernel_rfl, by kernel_rfl, by kernel_rfl, by kernel_rfl⟩
theorem nb_tff (a b : Int) : Fits (reckon (tabOf Tryz.prog extY conP0 true) 300 68 [.int .u64 a, .int .u64 b] [cmp true, cmp false, cmp false]) (.bool false) [(cl a == 3, false), lU a, (cl b == 3, false), lU b, (cl a == 0, true), lU a] := ⟨by kernel_rfl, by kernel_rfl, by kernel_rfl, by kernel_rfl⟩
theorem nb_ff (a b : Int) : Fits (reckon (tabOf Tryz.prog extY conP0 true) 300 68 [.int .u64 a, .int .u64 b] [cmp false, cmp false]) (.bool false) [(cl a == 3, false), lU a, (cl a == 0, false), lU a] := ⟨by kernel_rfl, by kernel_rfl, by kernel_rfl, by kernel_rfl⟩
theorem nb_ftt (a b : Int) : Fits (reckon (tabOf Tryz.prog extY conP0 true) 300 68 [.int .u64 a, .int .u64 b] [cmp false, cmp true, cmp true]) (.bool true) [(cl b == 0, true), lU b, (cl a == 3, true), lU a, (cl a == 0, false), lU a] := ⟨by kernel_rfl, by kernel_rfl, by kernel_rfl, by kernel_rfl⟩
theorem nb_ftf (a b : Int) : Fits (reckon (tabOf Tryz.prog extY conP0 true) 300 68 [.int .u64 a, .int .u64 b] [cmp false, cmp true, cmp false]) (.bool false) [(cl b == 0, false), lU b, (cl a == 3, true), lU a, (cl a == 0, false), lU a] := ⟨by kernel_rfl, by kernel_rfl, by kernel_rfl, by kernel_rfl⟩
theorem nb_calls (a b : Int) (ha : U a) (hb : U b) (w : World) : Calls Tryz.prog 68 #[.int .u64 a, .int .u64 b] w fun r w' => r = .returned (.bool (badB a b)) ∧ Tidy w w' := by
  have hv : ([.int .u64 a, .int .u64 b].all (lt 0)) = true := rfl
  have ka : decide (U a) = true := decide_eq_true ha
  have kb : decide (U b) = true := decide_eq_true hb
  by_cases h0 : cl a = 0
  · by_cases h3 : cl b = 3
    · rw [show badB a b = true from decide_eq_true (.inl ⟨h0, h3⟩)]
      exact fits_calls (tabY_ok conP0_ok) (nb_tt a b) (okCons (beq_t h3) (okCons kb (okCons (beq_t h0) (okL1 ka)))) hv (by rfl) w
    · rw [show badB a b = false from decide_eq_false (by omega)]
      exact fits_calls (tabY_ok conP0_ok) (nb_tff a b) (okCons (beq_f (by omega)) (okCons ka (okCons (beq_f h3) (okCons kb (okCons (beq_t h0) (okL1 ka)))))) hv (by rfl) w
  · by_cases h3 : cl a = 3
    · by_cases hz : cl b = 0
      · rw [show badB a b = true from decide_eq_true (.inr ⟨h3, hz⟩)]
        exact fits_calls (tabY_ok conP0_ok) (nb_ftt a b) (okCons (beq_t hz) (okCons kb (okCons (beq_t h3) (okCons ka (okCons (beq_f h0) (okL1 ka)))))) hv (by rfl) w
      · rw [show badB a b = false from decide_eq_false (by omega)]
        exact fits_calls (tabY_ok conP0_ok) (nb_ftf a b) (okCons (beq_f hz) (okCons kb (okCons (beq_t h3) (okCons ka (okCons (beq_f h0) (okL1 ka)))))) hv (by rfl) w
    · rw [show badB a b = false from decide_eq_false (by omega)]
      exact fits_calls (tabY_ok conP0_ok) (nb_ff a b) (okCons (beq_f h3) (okCons ka (okCons (beq_f h0) (okL1 ka)))) hv (by rfl) w
/-! ### Endless, with a product's sign -/
theorem xor_top {a b : Int} (ha : U a) (hb : U b) : U (bXor a b) ∧ bAnd (bXor a b) 9223372036854775808 = if prN a b = true then 9223372036854775808 else 0 := by
  obtain ⟨A, rfl⟩ := Int.eq_ofNat_of_zero_le ha.1
  obtain ⟨B, rfl⟩ := Int.eq_ofNat_of_zero_le hb.1
  have h1 : A < 2 ^ 64 := by have := ha.2; omega
  have h2 : B < 2 ^ 64 := by have := hb.2; omega
  have hx : A ^^^ B < 2 ^ 64 := Nat.xor_lt_two_pow h1 h2
  have e : bXor (A : Int) (B : Int) = ((A ^^^ B : Nat) : Int) := by
    unfold bXor
    rw [back, BitVec.toNat_xor, ofU (by omega), ofU (by omega)]
  have hU : U (bXor (A : Int) (B : Int)) := by rw [e]; exact ⟨by omega, by omega⟩
  refine ⟨hU, ?_⟩
  rw [bAnd_sign hU, e]
  have hd : (A ^^^ B) / 2 ^ 63 = A / 2 ^ 63 ^^^ B / 2 ^ 63 := Nat.xor_div_two_pow
  have a1 : A / 2 ^ 63 < 2 := by omega
  have b1 : B / 2 ^ 63 < 2 := by omega
  have hA : sgn (A : Int) = decide (A / 2 ^ 63 = 1) := by
    unfold sgn
    by_cases h : A / 2 ^ 63 = 1
    · rw [decide_eq_true h]; exact decide_eq_true (by omega)
    · rw [decide_eq_false h]; exact decide_eq_false (by omega)
  have hB : sgn (B : Int) = decide (B / 2 ^ 63 = 1) := by
    unfold sgn
    by_cases h : B / 2 ^ 63 = 1
    · rw [decide_eq_true h]; exact decide_eq_true (by omega)
    · rw [decide_eq_false h]; exact decide_eq_false (by omega)
  have e2 : ((A ^^^ B : Nat) : Int) / 9223372036854775808 = ((A / 2 ^ 63 ^^^ B / 2 ^ 63 : Nat) : Int) := by rw [← hd]; omega
  rw [e2]
  unfold prN
  rw [hA, hB]
  generalize A / 2 ^ 63 = x at *
  generalize B / 2 ^ 63 = y at *
  have hx : x = 0 ∨ x = 1 := by omega
  have hy : y = 0 ∨ y = 1 := by omega
  rcases hx with rfl | rfl <;> rcases hy with rfl | rfl <;> decide
def inf : Int := 9218868437227405312
theorem en_fits (a b : Int) : Fits (reckon (tabOf Tryz.prog extY conP0 true) 300 71 [.int .u64 a, .int .u64 b] []) (.int .u64 (bOr (bNot 9218868437227405312 9223372036854775808) (bAnd (bXor a b) 9223372036854775808))) [] := ⟨by kernel_rfl, by kernel_rfl, by kernel_rfl, by kernel_rfl⟩
theorem en_eq {a b : Int} (ha : U a) (hb : U b) : bOr (bNot 9218868437227405312 9223372036854775808) (bAnd (bXor a b) 9223372036854775808) = sS (prN a b) inf := by
  rw [(xor_top ha hb).2]
  cases prN a b <;> decide
theorem en_calls (a b : Int) (ha : U a) (hb : U b) (w : World) : Calls Tryz.prog 71 #[.int .u64 a, .int .u64 b] w fun r w' => r = .returned (.int .u64 (sS (prN a b) inf)) ∧ Tidy w w' := by
  have := fits_calls (tabY_ok conP0_ok) (en_fits a b) (fun x hx => by cases hx) (by rfl) (by rfl) w
  rw [en_eq ha hb] at this
  exact this
/-! ### the exact product -/
theorem xa_fits (a b : Int) : Fits (reckon (tabOf Tryz.prog extY conP0 true) 300 72 [.int .u64 a, .int .u64 b] [cmp true, cmp true]) (vN (prN a b) (IntKind.i64.wrap (xp a + xp b)) (W4.of ((wSg a).val * (wSg b).val)) false) [(decide ((wSg a).ok ∧ (wSg b).ok), true), lU b, (decide (cl b ≤ 2), true), lU b, lU a, (decide (cl a ≤ 2), true), lU a] := ⟨by kernel_rfl, by kernel_rfl, by kernel_rfl, by kernel_rfl⟩
def vPx (a b : Int) : Value := vN (prN a b) (prE a b) (ofN (prV a b)) false
def finB (a b : Int) : Bool := decide (cl a ≤ 2 ∧ cl b ≤ 2)
theorem xa_calls (a b : Int) (ha : U a) (hb : U b) (h : finB a b = true) (w : World) : Calls Tryz.prog 72 #[.int .u64 a, .int .u64 b] w fun r w' => r = .returned (vPx a b) ∧ Tidy w w' := by
  obtain ⟨ca, cb⟩ := of_decide_eq_true h
  have ka : decide (U a) = true := decide_eq_true ha
  have kb : decide (U b) = true := decide_eq_true hb
  have hE := prE_bd a b
  have e1 : IntKind.i64.wrap (xp a + xp b) = prE a b := wrapI' ⟨by unfold prE at hE; omega, by unfold prE at hE; omega⟩
  have e2 : W4.of ((wSg a).val * (wSg b).val) = ofN (prV a b) := by
    unfold ofN prV
    rw [W4.nat_val (wSg_ok a), W4.nat_val (wSg_ok b), wSg_nat, wSg_nat, Int.natCast_mul]
  have := fits_calls (tabY_ok conP0_ok) (xa_fits a b) (okCons (decide_eq_true ⟨wSg_ok a, wSg_ok b⟩) (okCons kb (okCons (decide_eq_true cb) (okCons kb (okCons ka (okCons (decide_eq_true ca) (okL1 ka))))))) (by rfl) (by rfl) w
  rw [e1, e2] at this
  exact this
def conP1 : Con := alt 68 (gUUb badB) (alt 71 (gUU (fun a b => .int .u64 (sS (prN a b) inf)) (fun _ _ => true)) (alt 72 (gUU vPx finB) conP0))
theorem conP1_ok : ConOk conP1 := alt_ok Tryz.func68 rfl (gUUb_ok nb_calls) (alt_ok Tryz.func71 rfl (gUU_ok fun a b ha hb _ w => en_calls a b ha hb w) (alt_ok Tryz.func72 rfl (gUU_ok xa_calls) conP0_ok))
theorem prV_256 (a b : Int) : prV a b < 2 ^ 256 := by
  have := prV_lt a b
  exact Nat.lt_trans this (by decide)
end Go.Proofs.YtjkgnbdeklploaaGreat
