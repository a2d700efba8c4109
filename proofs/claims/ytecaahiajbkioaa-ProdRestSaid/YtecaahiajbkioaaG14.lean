/-
  sums.Add, as a call in every world.
-/
import Derived.Test.YtecaahiajbkioaaG13
import Derived.Test.YtecaahiajbkioaaG06
namespace Go.Proofs.Ytecaahiajbkioaa
open Go.KRun Go.Wd Go.Pt Go.Rn
set_option maxRecDepth 100000

def conA0 : Con := alt 31 gEx (alt 20 gRd (alt 57 (gU vT) (alt 35 (gU fun p => .int .i64 (cl p)) conN)))
theorem conA0_ok : ConOk conA0 := alt_ok Try.func31 rfl gEx_ok (alt_ok Try.func20 rfl gRd_ok (alt_ok Try.func57 rfl take_ok (alt_ok Try.func35 rfl cls_ok conN_ok)))
def wSg (p : Int) : W4 := ⟨sg p, 0, 0, 0⟩
def lp0 : Bool × Bool := (decide ((0 : Int) < ((2 : Nat) : Int)), true)
def lp1 : Bool × Bool := (decide (IntKind.i64.wrap (0 + 1) < ((2 : Nat) : Int)), true)
def lp2 : Bool × Bool := (decide (IntKind.i64.wrap (IntKind.i64.wrap (0 + 1) + 1) < ((2 : Nat) : Int)), false)
theorem ad_nTT (a b m : Int) : Fits (reckon (tabOf Try.prog extY conA0 true) 300 29 [.int .u64 a, .int .u64 b, .int .i64 m] [cmp true, cmp true, cmp true, cmp true, cmp true, cmp false]) (rdT 9221120237041090560 1) [lp2, (cl b == 5, true), lU b, lp1, (cl a == 5, true), lU a, (decide (cl a > 3), true), lU a, lp0] := ⟨by kernel_rfl, by kernel_rfl, by kernel_rfl, by kernel_rfl⟩
theorem ad_nTF (a b m : Int) : Fits (reckon (tabOf Try.prog extY conA0 true) 300 29 [.int .u64 a, .int .u64 b, .int .i64 m] [cmp true, cmp true, cmp true, cmp true, cmp false, cmp false]) (rdT 9221120237041090560 1) [lp2, (cl b == 5, false), lU b, lp1, (cl a == 5, true), lU a, (decide (cl a > 3), true), lU a, lp0] := ⟨by kernel_rfl, by kernel_rfl, by kernel_rfl, by kernel_rfl⟩
theorem ad_nFT (a b m : Int) : Fits (reckon (tabOf Try.prog extY conA0 true) 300 29 [.int .u64 a, .int .u64 b, .int .i64 m] [cmp true, cmp true, cmp false, cmp true, cmp true, cmp false]) (rdT 9221120237041090560 1) [lp2, (cl b == 5, true), lU b, lp1, (cl a == 5, false), lU a, (decide (cl a > 3), true), lU a, lp0] := ⟨by kernel_rfl, by kernel_rfl, by kernel_rfl, by kernel_rfl⟩
theorem ad_nFF (a b m : Int) : Fits (reckon (tabOf Try.prog extY conA0 true) 300 29 [.int .u64 a, .int .u64 b, .int .i64 m] [cmp true, cmp true, cmp false, cmp true, cmp false, cmp false]) (rdT 9221120237041090560 0) [lp2, (cl b == 5, false), lU b, lp1, (cl a == 5, false), lU a, (decide (cl a > 3), true), lU a, lp0] := ⟨by kernel_rfl, by kernel_rfl, by kernel_rfl, by kernel_rfl⟩
theorem ad_mT (a b m : Int) : Fits (reckon (tabOf Try.prog extY conA0 true) 300 29 [.int .u64 a, .int .u64 b, .int .i64 m] [cmp true, cmp false, cmp false, cmp true, cmp true, cmp true, cmp false]) (rdT 9221120237041090560 1) [lp2, (cl b == 5, true), lU b, (decide (cl b > 3), true), lU b, lp1, (cl a == 5, false), lU a, (decide (cl a > 3), false), lU a, lp0] := ⟨by kernel_rfl, by kernel_rfl, by kernel_rfl, by kernel_rfl⟩
theorem ad_mF (a b m : Int) : Fits (reckon (tabOf Try.prog extY conA0 true) 300 29 [.int .u64 a, .int .u64 b, .int .i64 m] [cmp true, cmp false, cmp false, cmp true, cmp true, cmp false, cmp false]) (rdT 9221120237041090560 0) [lp2, (cl b == 5, false), lU b, (decide (cl b > 3), true), lU b, lp1, (cl a == 5, false), lU a, (decide (cl a > 3), false), lU a, lp0] := ⟨by kernel_rfl, by kernel_rfl, by kernel_rfl, by kernel_rfl⟩
theorem ad_ii (a b m : Int) : Fits (reckon (tabOf Try.prog extY conA0 true) 300 29 [.int .u64 a, .int .u64 b, .int .i64 m] [cmp true, cmp false, cmp false, cmp true, cmp false, cmp false, cmp false, cmp true, cmp true, cmp true]) (rdT 9221120237041090560 1) [(a != b, true), (cl b == 3, true), lU b, (cl a == 3, true), lU a, lp2, (cl b == 5, false), lU b, (decide (cl b > 3), false), lU b, lp1, (cl a == 5, false), lU a, (decide (cl a > 3), false), lU a, lp0] := ⟨by kernel_rfl, by kernel_rfl, by kernel_rfl, by kernel_rfl⟩
theorem ad_is (a b m : Int) : Fits (reckon (tabOf Try.prog extY conA0 true) 300 29 [.int .u64 a, .int .u64 b, .int .i64 m] [cmp true, cmp false, cmp false, cmp true, cmp false, cmp false, cmp false, cmp true, cmp true, cmp false, cmp true]) (rdT a 0) [(cl a == 3, true), lU a, (a != b, false), (cl b == 3, true), lU b, (cl a == 3, true), lU a, lp2, (cl b == 5, false), lU b, (decide (cl b > 3), false), lU b, lp1, (cl a == 5, false), lU a, (decide (cl a > 3), false), lU a, lp0] := ⟨by kernel_rfl, by kernel_rfl, by kernel_rfl, by kernel_rfl⟩
theorem ad_ia (a b m : Int) : Fits (reckon (tabOf Try.prog extY conA0 true) 300 29 [.int .u64 a, .int .u64 b, .int .i64 m] [cmp true, cmp false, cmp false, cmp true, cmp false, cmp false, cmp false, cmp true, cmp false, cmp true]) (rdT a 0) [(cl a == 3, true), lU a, (cl b == 3, false), lU b, (cl a == 3, true), lU a, lp2, (cl b == 5, false), lU b, (decide (cl b > 3), false), lU b, lp1, (cl a == 5, false), lU a, (decide (cl a > 3), false), lU a, lp0] := ⟨by kernel_rfl, by kernel_rfl, by kernel_rfl, by kernel_rfl⟩
theorem ad_ib (a b m : Int) : Fits (reckon (tabOf Try.prog extY conA0 true) 300 29 [.int .u64 a, .int .u64 b, .int .i64 m] [cmp true, cmp false, cmp false, cmp true, cmp false, cmp false, cmp false, cmp false, cmp false, cmp true]) (rdT b 0) [(cl b == 3, true), lU b, (cl a == 3, false), lU a, (cl a == 3, false), lU a, lp2, (cl b == 5, false), lU b, (decide (cl b > 3), false), lU b, lp1, (cl a == 5, false), lU a, (decide (cl a > 3), false), lU a, lp0] := ⟨by kernel_rfl, by kernel_rfl, by kernel_rfl, by kernel_rfl⟩
theorem ad_fin (a b m : Int) : Fits (reckon (tabOf Try.prog extY conA0 true) 300 29 [.int .u64 a, .int .u64 b, .int .i64 m] [cmp true, cmp false, cmp false, cmp true, cmp false, cmp false, cmp false, cmp false, cmp false, cmp false, cmp true, cmp true]) (rdV m (xuN m (sgn a) (xp a) (wSg a).nat (sgn b) (xp b) (wSg b).nat) (tw (ofN (xuQ (sgn a) (xp a) (wSg a).nat (sgn b) (xp b) (wSg b).nat)) (xuB (sgn a) (xp a) (wSg a).nat (sgn b) (xp b) (wSg b).nat)) (clp (unN (xp a) (wSg a).nat (xp b) (wSg b).nat) - 1)) [(decide (ofN (xuQ (sgn a) (xp a) (wSg a).nat (sgn b) (xp b) (wSg b).nat)).ok, true), (okEx (xp a) (wSg a) false (xp b) (wSg b) false, true), lU b, (decide (cl b ≤ 2), true), lU b, lU a, (decide (cl a ≤ 2), true), lU a, (cl b == 3, false), lU b, (cl a == 3, false), lU a, (cl a == 3, false), lU a, lp2, (cl b == 5, false), lU b, (decide (cl b > 3), false), lU b, lp1, (cl a == 5, false), lU a, (decide (cl a > 3), false), lU a, lp0] := ⟨by kernel_rfl, by kernel_rfl, by kernel_rfl, by kernel_rfl⟩
/-! ### its numbers -/
theorem wSg_ok (p : Int) : (wSg p).ok := by
  have h := sg_lt p
  exact ⟨⟨h.1, by unfold wSg; dsimp only; omega⟩, ⟨by unfold wSg; dsimp only; omega, by unfold wSg; dsimp only; omega⟩, ⟨by unfold wSg; dsimp only; omega, by unfold wSg; dsimp only; omega⟩, ⟨by unfold wSg; dsimp only; omega, by unfold wSg; dsimp only; omega⟩⟩
theorem wSg_nat (p : Int) : (wSg p).nat = (sg p).toNat := by
  unfold W4.nat W4.val wSg
  simp only [Int.mul_zero, Int.add_zero]
theorem fin_ex {p : Int} (h : cl p ≤ 2) : ex p ≠ 2047 := by
  rcases cl_cases p with ⟨h1, _⟩ | ⟨_, h2⟩ | ⟨_, h2, _⟩ <;> omega
theorem tw_of {q : Nat} (h : q < 2 ^ 256) (b : Bool) : tw (ofN q) b = 2 * q + bN b := by
  unfold tw
  rw [ofN_nat h]
  cases b <;> rfl
/-- the unit may be far away -/
theorem clp_round (k : Int) (n : Bool) {x : W4} (hx : x.ok) (b : Bool) (u : Int) : rnP k n (tw x b) (clp u - 1) = rnP k n (tw x b) (u - 1) ∧ rnF k n (tw x b) (clp u - 1) = rnF k n (tw x b) (u - 1) := by
  have h1 := same_round (m := k) (neg := n) hx b (C := clp u) (D := u) (by unfold clp; split <;> (try split) <;> omega)
  have h2 := same_round (m := k) (neg := n) hx b (C := u) (D := u) (.inl rfl)
  exact ⟨by rw [h1.1, h2.1], by rw [h1.2, h2.2]⟩
/-- what Exact answers is rounded as the exact sum -/
theorem xu_rd (k m : Int) {G Ex Ey : Int} {X Y : Nat} (hX : May Ex X) (hY : May Ey Y) (hx : G ≤ Ex) (hy : G ≤ Ey) (nx ny : Bool) :
    rdV k (xuN m nx Ex X ny Ey Y) (tw (ofN (xuQ nx Ex X ny Ey Y)) (xuB nx Ex X ny Ey Y)) (clp (unN Ex X Ey Y) - 1) = rdV k (sgS m nx ny (smI G nx Ex X ny Ey Y)) (smI G nx Ex X ny Ey Y).natAbs G := by
  have hq := xuQ_lt nx Ex X ny Ey Y
  have e : (2 : Nat) ^ 256 = 2 * 2 ^ 255 := rfl
  obtain ⟨c1, c2⟩ := clp_round k (xuN m nx Ex X ny Ey Y) (ofN_ok (xuQ nx Ex X ny Ey Y)) (xuB nx Ex X ny Ey Y) (unN Ex X Ey Y)
  obtain ⟨p, q, r⟩ := xu_round hX hY hx hy k m (xuN m nx Ex X ny Ey Y) nx ny
  unfold rdV
  rw [c1, c2, tw_of (by omega), p, q, r]
/-- what Add answers -/
def suP (m a b : Int) : Int := if 3 < cl a ∨ 3 < cl b then 9221120237041090560 else if cl a = 3 then (if cl b = 3 ∧ a ≠ b then 9221120237041090560 else a) else if cl b = 3 then b else sS (adN m a b) (adP m a b)
def suF (m a b : Int) : Int := if 3 < cl a ∨ 3 < cl b then (if cl a = 5 ∨ cl b = 5 then 1 else 0) else if cl a = 3 then (if cl b = 3 ∧ a ≠ b then 1 else 0) else if cl b = 3 then 0 else adF m a b
def suV (m a b : Int) : Value := rdT (suP m a b) (suF m a b)
theorem beq_t {x y : Int} (h : x = y) : (x == y) = true := by simpa using h
theorem beq_f {x y : Int} (h : x ≠ y) : (x == y) = false := by simpa using h
theorem bne_t {x y : Int} (h : x ≠ y) : (x != y) = true := by simpa using h
theorem bne_f {x y : Int} (h : x = y) : (x != y) = false := by simpa using h
theorem cl_bd (p : Int) : 0 ≤ cl p ∧ cl p ≤ 5 := by
  unfold cl
  split
  · split <;> omega
  · split
    · split
      · omega
      · split <;> omega
    · omega
theorem sadd_calls (a b m : Int) (ha : U a) (hb : U b) (w : World) : Calls Try.prog 29 #[.int .u64 a, .int .u64 b, .int .i64 m] w fun r w' => r = .returned (suV m a b) ∧ Tidy w w' := by
  have hv : ([.int .u64 a, .int .u64 b, .int .i64 m].all (lt 0)) = true := rfl
  have ka : decide (U a) = true := decide_eq_true ha
  have kb : decide (U b) = true := decide_eq_true hb
  have k0 : lp0.1 = lp0.2 := by decide
  have k1 : lp1.1 = lp1.2 := by decide
  have k2 : lp2.1 = lp2.2 := by decide
  have ba := cl_bd a
  have bb := cl_bd b
  unfold suV suP suF
  by_cases hna : 3 < cl a
  · have g1 : decide (cl a > 3) = true := decide_eq_true hna
    rw [if_pos (.inl hna), if_pos (.inl hna)]
    have mk : ∀ {d e : Bool}, (cl a == 5) = d → (cl b == 5) = e → okLog [lp2, (cl b == 5, e), lU b, lp1, (cl a == 5, d), lU a, (decide (cl a > 3), true), lU a, lp0] := fun h1 h2 =>
      okCons k2 (okCons h2 (okCons kb (okCons k1 (okCons h1 (okCons ka (okCons g1 (okCons ka (okL1 k0))))))))
    by_cases ca : cl a = 5 <;> by_cases cb : cl b = 5
    · rw [if_pos (.inl ca)]; exact fits_calls (tabY_ok conA0_ok) (ad_nTT a b m) (mk (beq_t ca) (beq_t cb)) hv (by rfl) w
    · rw [if_pos (.inl ca)]; exact fits_calls (tabY_ok conA0_ok) (ad_nTF a b m) (mk (beq_t ca) (beq_f cb)) hv (by rfl) w
    · rw [if_pos (.inr cb)]; exact fits_calls (tabY_ok conA0_ok) (ad_nFT a b m) (mk (beq_f ca) (beq_t cb)) hv (by rfl) w
    · rw [if_neg (by omega)]; exact fits_calls (tabY_ok conA0_ok) (ad_nFF a b m) (mk (beq_f ca) (beq_f cb)) hv (by rfl) w
  · have g1 : decide (cl a > 3) = false := decide_eq_false hna
    have ca : (cl a == 5) = false := beq_f (by omega)
    by_cases hnb : 3 < cl b
    · have g2 : decide (cl b > 3) = true := decide_eq_true hnb
      rw [if_pos (.inr hnb), if_pos (.inr hnb)]
      by_cases cb : cl b = 5
      · rw [if_pos (.inr cb)]
        exact fits_calls (tabY_ok conA0_ok) (ad_mT a b m) (okCons k2 (okCons (beq_t cb) (okCons kb (okCons g2 (okCons kb (okCons k1 (okCons ca (okCons ka (okCons g1 (okCons ka (okL1 k0))))))))))) hv (by rfl) w
      · rw [if_neg (by omega)]
        exact fits_calls (tabY_ok conA0_ok) (ad_mF a b m) (okCons k2 (okCons (beq_f cb) (okCons kb (okCons g2 (okCons kb (okCons k1 (okCons ca (okCons ka (okCons g1 (okCons ka (okL1 k0))))))))))) hv (by rfl) w
    · have g2 : decide (cl b > 3) = false := decide_eq_false hnb
      have cb : (cl b == 5) = false := beq_f (by omega)
      have lN : okLog [lp2, (cl b == 5, false), lU b, (decide (cl b > 3), false), lU b, lp1, (cl a == 5, false), lU a, (decide (cl a > 3), false), lU a, lp0] :=
        okCons k2 (okCons cb (okCons kb (okCons g2 (okCons kb (okCons k1 (okCons ca (okCons ka (okCons g1 (okCons ka (okL1 k0))))))))))
      have hno : ¬ (3 < cl a ∨ 3 < cl b) := by omega
      rw [if_neg hno, if_neg hno]
      by_cases ea : cl a = 3
      · rw [if_pos ea, if_pos ea]
        by_cases eb : cl b = 3
        · by_cases hab : a = b
          · rw [if_neg (fun h => h.2 hab), if_neg (fun h => h.2 hab)]
            exact fits_calls (tabY_ok conA0_ok) (ad_is a b m) (okCons (beq_t ea) (okCons ka (okCons (bne_f hab) (okCons (beq_t eb) (okCons kb (okCons (beq_t ea) (okCons ka lN))))))) hv (by rfl) w
          · rw [if_pos ⟨eb, hab⟩, if_pos ⟨eb, hab⟩]
            exact fits_calls (tabY_ok conA0_ok) (ad_ii a b m) (okCons (bne_t hab) (okCons (beq_t eb) (okCons kb (okCons (beq_t ea) (okCons ka lN))))) hv (by rfl) w
        · rw [if_neg (fun h => eb h.1), if_neg (fun h => eb h.1)]
          exact fits_calls (tabY_ok conA0_ok) (ad_ia a b m) (okCons (beq_t ea) (okCons ka (okCons (beq_f eb) (okCons kb (okCons (beq_t ea) (okCons ka lN)))))) hv (by rfl) w
      · rw [if_neg ea, if_neg ea]
        by_cases eb : cl b = 3
        · rw [if_pos eb, if_pos eb]
          exact fits_calls (tabY_ok conA0_ok) (ad_ib a b m) (okCons (beq_t eb) (okCons kb (okCons (beq_f ea) (okCons ka (okCons (beq_f ea) (okCons ka lN)))))) hv (by rfl) w
        · rw [if_neg eb, if_neg eb]
          have mA : May (xp a) (wSg a).nat := by rw [wSg_nat]; exact may_pat a
          have mB : May (xp b) (wSg b).nat := by rw [wSg_nat]; exact may_pat b
          have kE : okEx (xp a) (wSg a) false (xp b) (wSg b) false = true := decide_eq_true ⟨wSg_ok a, wSg_ok b, rfl, rfl, (may_iff (wSg_ok a)).2 mA, (may_iff (wSg_ok b)).2 mB⟩
          have fa : decide (cl a ≤ 2) = true := decide_eq_true (by omega)
          have fb : decide (cl b ≤ 2) = true := decide_eq_true (by omega)
          have hf := ad_fin a b m
          rw [xu_rd m m mA mB (xp_bd a).1 (xp_bd b).1, wSg_nat, wSg_nat] at hf
          exact fits_calls (tabY_ok conA0_ok) hf (okCons (decide_eq_true (ofN_ok _)) (okCons kE (okCons kb (okCons fb (okCons kb (okCons ka (okCons fa (okCons ka (okCons (beq_f eb) (okCons kb (okCons (beq_f ea) (okCons ka (okCons (beq_f ea) (okCons ka lN)))))))))))))) hv (by rfl) w
def gSA : Ans := fun vals s =>
  match vals with
  | [.int .u64 a, .int .u64 b, .int .i64 m] => some (suV m a b, s, [(decide (U a ∧ U b), true)])
  | _ => none
theorem gSA_ok : AnsOk 29 gSA := by
  intro vals s v s' lg h hl w
  unfold gSA at h
  split at h
  · cases h
    obtain ⟨h1, h2⟩ := of_decide_eq_true (hl _ (List.mem_singleton.2 rfl))
    exact sadd_calls _ _ _ h1 h2 w
  · cases h
end Go.Proofs.Ytecaahiajbkioaa

/-
  Products of the seat's program, I: bits.Mul64 and wide.mulAdd, as calls: what they answer of any words, in every world.
-/
namespace Go.Proofs.Ytecaahiajbkioaa
open Go.KRun Go.Wd

def lo32 (z : Int) : Int := IntKind.u64.wrap ((BitVec.ofInt 64 z &&& BitVec.ofInt 64 4294967295).toNat : Nat)
def hi32 (z : Int) : Int := z.fdiv (2 ^ min ((32 : Int).toNat) 64)
def l32 : Bool × Bool := (decide ((32 : Int) < 0), false)
theorem hi32_eq (z : Int) : hi32 z = z / 4294967296 := by
  unfold hi32
  rw [show (2 : Int) ^ min ((32 : Int).toNat) 64 = 4294967296 from rfl, Int.fdiv_eq_ediv_of_nonneg _ (by omega)]
theorem lo32_eq {z : Int} (h0 : 0 ≤ z) (h1 : z < 18446744073709551616) : lo32 z = z % 4294967296 := by
  unfold lo32
  have e1 : (BitVec.ofInt 64 z).toNat = z.toNat := by
    rw [BitVec.toNat_ofInt]
    omega
  have e2 : (BitVec.ofInt 64 4294967295).toNat = 2 ^ 32 - 1 := by rfl
  rw [BitVec.toNat_and, e1, e2, Nat.and_two_pow_sub_one_eq_mod, wrap_u64]
  omega
def mT (x y : Int) : Int := IntKind.u64.wrap (IntKind.u64.wrap (hi32 x * lo32 y) + hi32 (IntKind.u64.wrap (lo32 x * lo32 y)))
def mW (x y : Int) : Int := IntKind.u64.wrap (lo32 (mT x y) + IntKind.u64.wrap (lo32 x * hi32 y))
def mH (x y : Int) : Int := IntKind.u64.wrap (IntKind.u64.wrap (IntKind.u64.wrap (hi32 x * hi32 y) + hi32 (mT x y)) + hi32 (mW x y))
def mL (x y : Int) : Int := IntKind.u64.wrap (x * y)
abbrev u_ (n : Int) : Value := .int .u64 n
theorem mul64_fits (x y : Int) : Fits (reckon (tabOf Try.prog extY conN true) 3000 90 [u_ x, u_ y] []) (.tuple #[u_ (mH x y), u_ (mL x y)]) [l32, l32, l32, l32, l32] := ⟨by kernel_rfl, by kernel_rfl, by kernel_rfl, by kernel_rfl⟩
theorem mul_split (x y : Int) (hx : 0 ≤ x ∧ x < 18446744073709551616) (hy : 0 ≤ y ∧ y < 18446744073709551616) : mH x y = x * y / 18446744073709551616 ∧ mL x y = x * y % 18446744073709551616 := by
  refine ⟨?_, by unfold mL; rw [wrap_u64]⟩
  have x0 : 0 ≤ x % 4294967296 ∧ x % 4294967296 < 4294967296 := by omega
  have y0 : 0 ≤ y % 4294967296 ∧ y % 4294967296 < 4294967296 := by omega
  have x1 : 0 ≤ x / 4294967296 ∧ x / 4294967296 < 4294967296 := by omega
  have y1 : 0 ≤ y / 4294967296 ∧ y / 4294967296 < 4294967296 := by omega
  have bd : ∀ p q : Int, (0 ≤ p ∧ p < 4294967296) → (0 ≤ q ∧ q < 4294967296) → 0 ≤ p * q ∧ p * q ≤ 18446744065119617025 := fun p q hp hq => by
    refine ⟨Int.mul_nonneg hp.1 hq.1, ?_⟩
    have := Int.mul_le_mul (show p ≤ 4294967295 by omega) (show q ≤ 4294967295 by omega) hq.1 (by omega)
    omega
  have ex : x * y = 18446744073709551616 * (x / 4294967296 * (y / 4294967296)) + 4294967296 * (x / 4294967296 * (y % 4294967296)) + 4294967296 * (x % 4294967296 * (y / 4294967296)) + x % 4294967296 * (y % 4294967296) := by
    have h1 := Int.mul_ediv_add_emod x 4294967296
    have h2 := Int.mul_ediv_add_emod y 4294967296
    generalize x / 4294967296 = p at *
    generalize x % 4294967296 = q at *
    generalize y / 4294967296 = r at *
    generalize y % 4294967296 = s at *
    rw [← h1, ← h2, Int.add_mul, Int.mul_add, Int.mul_add, Int.mul_assoc, Int.mul_left_comm p, Int.mul_left_comm q, Int.mul_assoc]
    omega
  have a1 := bd _ _ x0 y0
  have a2 := bd _ _ x1 y0
  have a3 := bd _ _ x0 y1
  have a4 := bd _ _ x1 y1
  unfold mH mW mT
  simp only [hi32_eq, lo32_eq hx.1 hx.2, lo32_eq hy.1 hy.2]
  generalize x / 4294967296 * (y / 4294967296) = d at *
  generalize x / 4294967296 * (y % 4294967296) = b at *
  generalize x % 4294967296 * (y / 4294967296) = c at *
  generalize x % 4294967296 * (y % 4294967296) = a at *
  rw [ex]
  have w1 : IntKind.u64.wrap a = a := wrap_u64' (by omega) (by omega)
  have w2 : IntKind.u64.wrap b = b := wrap_u64' (by omega) (by omega)
  have w3 : IntKind.u64.wrap c = c := wrap_u64' (by omega) (by omega)
  have w4 : IntKind.u64.wrap d = d := wrap_u64' (by omega) (by omega)
  have w5 : IntKind.u64.wrap (b + a / 4294967296) = b + a / 4294967296 := wrap_u64' (by omega) (by omega)
  rw [w1, w2, w3, w4, w5, lo32_eq (z := b + a / 4294967296) (by omega) (by omega)]
  rw [wrap_u64' (n := (b + a / 4294967296) % 4294967296 + c) (by omega) (by omega), wrap_u64' (n := d + (b + a / 4294967296) / 4294967296) (by omega) (by omega), wrap_u64' (by omega) (by omega)]
  omega
theorem l32_ok : l32.1 = l32.2 := rfl
abbrev word (x : Int) : Prop := 0 ≤ x ∧ x < 18446744073709551616
theorem mul64_calls (x y : Int) (hx : word x) (hy : word y) (w : World) : Calls Try.prog 90 #[u_ x, u_ y] w fun e w' => e = .returned (.tuple #[u_ (x * y / 18446744073709551616), u_ (x * y % 18446744073709551616)]) ∧ Tidy w w' := by
  have h := fits_calls (tabY_ok conN_ok) (mul64_fits x y) (okCons l32_ok (okCons l32_ok (okCons l32_ok (okCons l32_ok (okL1 l32_ok))))) (by rfl) (by rfl) w
  obtain ⟨e1, e2⟩ := mul_split x y hx hy
  rw [e1, e2] at h
  exact h
end Go.Proofs.Ytecaahiajbkioaa

/-
  Products of the seat's program, II: wide.mulAdd and wide.Mul, as calls: what they answer of any numbers, in every world.
-/
namespace Go.Proofs.Ytecaahiajbkioaa
open Go.KRun Go.Wd
set_option maxRecDepth 100000

def u1m : Value → Option Int
  | .int .u64 n => some n
  | _ => none
theorem u1m_spec {v : Value} {n : Int} (h : u1m v = some n) : v = u_ n := by
  unfold u1m at h
  split at h
  · cases h; rfl
  · cases h
def gMul : Ans := fun vals s =>
  match vals with
  | [x, y] =>
    match u1m x, u1m y with
    | some a, some b => some (.tuple #[u_ (a * b / 18446744073709551616), u_ (a * b % 18446744073709551616)], s, [(decide (word a ∧ word b), true)])
    | _, _ => none
  | _ => none
theorem gMul_ok : AnsOk 90 gMul := by
  intro vals s v s' lg h hl w
  unfold gMul at h
  split at h
  · split at h
    · rename_i a b ha hb
      cases h
      have h1 := hl _ (List.mem_singleton.2 rfl)
      simp only [decide_eq_true_eq] at h1
      rw [u1m_spec ha, u1m_spec hb]
      exact mul64_calls a b h1.1 h1.2 w
    · cases h
  · cases h
def conM : Con := alt 90 gMul conN
theorem conM_ok : ConOk conM := alt_ok Try.func90 rfl gMul_ok conN_ok
def pL (x y m : Int) : Int := ad (x * y % 18446744073709551616) m 0
def oA (x y c : Int) : Bool × Bool := (decide (0 ≤ x ∧ 0 ≤ y ∧ 0 ≤ c ∧ c ≤ 1), true)
theorem ma_fits (x y m c : Int) : Fits (reckon (tabOf Try.prog extY conM true) 3000 81 [u_ x, u_ y, u_ m, u_ c] [])
    (.tuple #[u_ (ad (pL x y m) c 0), u_ (IntKind.u64.wrap (IntKind.u64.wrap (x * y / 18446744073709551616 + ca (x * y % 18446744073709551616) m 0) + ca (pL x y m) c 0))])
    [oA (pL x y m) c 0, oA (x * y % 18446744073709551616) m 0, (decide (word x ∧ word y), true)] := ⟨by kernel_rfl, by kernel_rfl, by kernel_rfl, by kernel_rfl⟩
theorem ma_arith {x y : Int} (hx : word x) (hy : word y) : 0 ≤ x * y ∧ x * y ≤ 340282366920938463426481119284349108225 := by
  refine ⟨Int.mul_nonneg hx.1 hy.1, ?_⟩
  have := Int.mul_le_mul (show x ≤ 18446744073709551615 by omega) (show y ≤ 18446744073709551615 by omega) hy.1 (by omega)
  omega
theorem ma_calls (x y m c : Int) (hx : word x) (hy : word y) (hm : word m) (hc : word c) (w : World) : Calls Try.prog 81 #[u_ x, u_ y, u_ m, u_ c] w fun e w' =>
    e = .returned (.tuple #[u_ ((x * y + m + c) % 18446744073709551616), u_ ((x * y + m + c) / 18446744073709551616)]) ∧ Tidy w w' := by
  have bd := ma_arith hx hy
  have h := fits_calls (tabY_ok conM_ok) (ma_fits x y m c) (okCons (decide_eq_true (by unfold pL ad; omega)) (okCons (decide_eq_true (by omega)) (okL1 (decide_eq_true ⟨hx, hy⟩)))) (by rfl) (by rfl) w
  have e1 : ad (pL x y m) c 0 = (x * y + m + c) % 18446744073709551616 := by unfold pL ad; omega
  have e2 : IntKind.u64.wrap (IntKind.u64.wrap (x * y / 18446744073709551616 + ca (x * y % 18446744073709551616) m 0) + ca (pL x y m) c 0) = (x * y + m + c) / 18446744073709551616 := by
    unfold pL ca ad
    rw [wrap_u64, wrap_u64]
    omega
  rw [e1, e2] at h
  exact h
def gMA : Ans := fun vals s =>
  match vals with
  | [x, y, m, c] =>
    match u1m x, u1m y, u1m m, u1m c with
    | some x, some y, some m, some c => some (.tuple #[u_ ((x * y + m + c) % 18446744073709551616), u_ ((x * y + m + c) / 18446744073709551616)], s, [(decide (word x ∧ word y ∧ word m ∧ word c), true)])
    | _, _, _, _ => none
  | _ => none
theorem gMA_ok : AnsOk 81 gMA := by
  intro vals s v s' lg h hl w
  unfold gMA at h
  split at h
  · split at h
    · rename_i x y m c hx hy hm hc
      cases h
      have h1 := hl _ (List.mem_singleton.2 rfl)
      simp only [decide_eq_true_eq] at h1
      rw [u1m_spec hx, u1m_spec hy, u1m_spec hm, u1m_spec hc]
      exact ma_calls _ _ _ _ h1.1 h1.2.1 h1.2.2.1 h1.2.2.2 w
    · cases h
  · cases h
def conMA : Con := alt 81 gMA conN
theorem conMA_ok : ConOk conMA := alt_ok Try.func81 rfl gMA_ok conN_ok

/-! ### a row of the product, and the product -/
def lo (x y z c : Int) : Int := (x * y + z + c) % 18446744073709551616
def hi (x y z c : Int) : Int := (x * y + z + c) / 18446744073709551616
def rowF (x : Int) : List Int → List Int → Int → List Int
  | y :: ys, z :: zs, c => lo x y z c :: rowF x ys zs (hi x y z c)
  | _, _, c => [c]
def jl (j : Int) : Bool × Bool := (decide (j < 4), true)
def je : Bool × Bool := (decide ((4 : Int) < 4), false)
def wl (x y z c : Int) : Bool × Bool := (decide (word x ∧ word y ∧ word z ∧ word c), true)
def rowG (x : Int) : List Int → List Int → Int → Int → Log → Log
  | y :: ys, z :: zs, c, j, L => rowG x ys zs (hi x y z c) (j + 1) (wl x y z c :: jl j :: L)
  | _, _, _, _, L => je :: L
def rowD (d : Bool) (x : Int) (ys zs : List Int) : List Int :=
  match d with
  | true => zs ++ [0]
  | false => rowF x ys zs 0
def rowE (d : Bool) (i x : Int) (ys zs : List Int) (L : Log) : Log :=
  match d with
  | true => (x == 0, true) :: jl i :: L
  | false => rowG x ys zs 0 0 ((x == 0, false) :: jl i :: L)
def ysOf (y : W4) : List Int := [y.a, y.b, y.c, y.d]
def r0 (d : Bool) (x y : W4) : List Int := rowD d x.a (ysOf y) [0, 0, 0, 0]
def r1 (d e : Bool) (x y : W4) : List Int := rowD e x.b (ysOf y) (r0 d x y).tail
def r2 (d e f : Bool) (x y : W4) : List Int := rowD f x.c (ysOf y) (r1 d e x y).tail
def r3 (d e f g : Bool) (x y : W4) : List Int := rowD g x.d (ysOf y) (r2 d e f x y).tail
def hd (l : List Int) : Int := l.headD 0
def w4T (l : List Int) : W4 := ⟨l.getD 0 0, l.getD 1 0, l.getD 2 0, l.getD 3 0⟩
def mulLog (d e f g : Bool) (x y : W4) : Log := je :: rowE g 3 x.d (ysOf y) (r2 d e f x y).tail (rowE f 2 x.c (ysOf y) (r1 d e x y).tail (rowE e 1 x.b (ysOf y) (r0 d x y).tail (rowE d 0 x.a (ysOf y) [0, 0, 0, 0] [])))
def scr (d : Bool) (s : List Dec) : List Dec :=
  match d with
  | true => cmp true :: cmp true :: s
  | false => cmp true :: cmp false :: cmp true :: cmp true :: cmp true :: cmp true :: cmp false :: s
def mulV (d e f g : Bool) (x y : W4) : Value := .tuple #[vW ⟨hd (r0 d x y), hd (r1 d e x y), hd (r2 d e f x y), hd (r3 d e f g x y)⟩, vW (w4T (r3 d e f g x y).tail)]
theorem mul_fits (x y : W4) (d e f g : Bool) : Fits (reckon (tabOf Try.prog extY conMA true) 3000 45 [vW x, vW y] (scr d (scr e (scr f (scr g [cmp false]))))) (mulV d e f g x y) (mulLog d e f g x y) := by
  cases d <;> cases e <;> cases f <;> cases g <;> exact ⟨by kernel_rfl, by kernel_rfl, by kernel_rfl, by kernel_rfl⟩
end Go.Proofs.Ytecaahiajbkioaa
