/-
  NumFe, NumFg, NumFh, FiB, FiC, FiD, FiE, FiF, FiG, NumTa
-/
import Derived.Test.YtjkgnbdeklploaaGreatDoorG28
namespace Go.Fx
/-- a sum with signs by turns -/
def al (a : Nat → Rat) (n : Nat) : Rat := sm (fun k => mns k * a k) n
theorem mns_zero : mns 0 = 1 := rfl
theorem mns_succ (j : Nat) : mns (j + 1) = -mns j := by
  unfold mns
  rcases Nat.mod_two_eq_zero_or_one j with c | c
  · rw [if_neg (show ¬ (j + 1) % 2 = 0 by omega), if_pos c]
  · rw [if_pos (show (j + 1) % 2 = 0 by omega), if_neg (show ¬ j % 2 = 0 by omega)]
    grind
theorem al_succ (a : Nat → Rat) (n : Nat) : al a (n + 1) = a 0 - al (fun k => a (k + 1)) n := by
  unfold al
  rw [sm_head, mns_zero]
  have : sm (fun i => mns (i + 1) * a (i + 1)) n = -sm (fun k => mns k * a (k + 1)) n := by
    rw [← sm_neg]
    refine sm_congr fun i hi => ?_
    rw [mns_succ]
    grind
  rw [this]
  grind
theorem al_bd : ∀ (n : Nat) (a : Nat → Rat), (∀ k, 0 ≤ a k) → (∀ k, a (k + 1) ≤ a k) → 0 ≤ al a n ∧ al a n ≤ a 0
  | 0, a, h, _ => by
    have : al a 0 = 0 := rfl
    have := h 0
    constructor <;> grind
  | n + 1, a, h, g => by
    have h1 := al_bd n (fun k => a (k + 1)) (fun k => h (k + 1)) fun k => g (k + 1)
    have h2 := g 0
    rw [al_succ]
    simp only [Nat.zero_add] at h1 h2
    constructor <;> grind
/-- the series' sums are sums with signs by turns -/
theorem s15_al (x : Rat) : ∀ n, sm (s15 x) (2 * n) = al (fun k => pf x (2 * k + 1)) n
  | 0 => rfl
  | n + 1 => by
    have h := s15_al x n
    have e1 : snI (2 * n) = 0 := by
      unfold snI
      rw [if_neg (by omega), if_neg (by omega)]
    have e2 : snI (2 * n + 1) = mns n := by
      unfold snI mns
      rcases Nat.mod_two_eq_zero_or_one n with c | c
      · rw [if_pos (by omega), if_pos c]
      · rw [if_neg (by omega), if_pos (by omega), if_neg (by omega)]
    show sm (s15 x) (2 * n) + s15 x (2 * n) + s15 x (2 * n + 1) = al _ n + mns n * pf x (2 * n + 1)
    rw [h]
    unfold s15
    rw [e1, e2]
    grind
/-! ### terms in whole units -/
/-- the terms, in units of which U are 1; each is cut -/
def tm (U s f n0 : Nat) : Nat → Nat
  | 0 => f
  | k + 1 => tm U s f n0 k * s / U / ((n0 + 2 * k) * (n0 + 2 * k + 1))
/-- the sum of the first n, with signs by turns -/
def sr (U s f n0 : Nat) : Nat → Int
  | 0 => 0
  | k + 1 => if k % 2 = 0 then sr U s f n0 k + tm U s f n0 k else sr U s f n0 k - tm U s f n0 k
theorem sr_al (U s f n0 : Nat) : ∀ n, ((sr U s f n0 n : Int) : Rat) = al (fun k => ((tm U s f n0 k : Nat) : Rat)) n
  | 0 => rfl
  | n + 1 => by
    have h := sr_al U s f n0 n
    show _ = al (fun k => ((tm U s f n0 k : Nat) : Rat)) n + mns n * ((tm U s f n0 n : Nat) : Rat)
    simp only [sr]
    unfold mns
    split
    · rw [Rat.intCast_add, h, Rat.intCast_natCast]
      grind
    · rw [Rat.intCast_sub, h, Rat.intCast_natCast]
      grind
theorem tm_less {U s f n0 : Nat} (hU : 0 < U) (hs : s ≤ U) (k : Nat) : tm U s f n0 (k + 1) ≤ tm U s f n0 k := by
  simp only [tm]
  refine Nat.le_trans (Nat.div_le_self _ _) ?_
  refine Nat.le_trans (Nat.div_le_div_right (Nat.mul_le_mul_left _ hs)) ?_
  rw [Nat.mul_div_cancel _ hU]
  exact Nat.le_refl _
theorem sr_bd {U s f n0 : Nat} (hU : 0 < U) (hs : s ≤ U) (n : Nat) : 0 ≤ sr U s f n0 n ∧ sr U s f n0 n ≤ f := by
  have h := al_bd n (fun k => ((tm U s f n0 k : Nat) : Rat)) (fun k => by exact_mod_cast Nat.zero_le _) fun k => by
    have := tm_less (f := f) (n0 := n0) hU hs k
    exact_mod_cast this
  rw [← sr_al] at h
  constructor
  · exact_mod_cast h.1
  · have h2 := h.2
    have e : ((tm U s f n0 0 : Nat) : Rat) = ((f : Nat) : Rat) := rfl
    rw [e, ← Rat.intCast_natCast] at h2
    exact_mod_cast h2
theorem tm_le {U s f n0 : Nat} (hU : 0 < U) (hs : s ≤ U) : ∀ k, tm U s f n0 k ≤ f
  | 0 => Nat.le_refl _
  | k + 1 => Nat.le_trans (tm_less hU hs k) (tm_le hU hs k)
/-- behind a term that is 0 nothing comes -/
theorem tm_none {U s f n0 j : Nat} (h : tm U s f n0 j = 0) : ∀ d, tm U s f n0 (j + d) = 0
  | 0 => h
  | d + 1 => by
    have := tm_none h d
    show tm U s f n0 (j + d) * s / U / _ = 0
    rw [this, Nat.zero_mul, Nat.zero_div, Nat.zero_div]
theorem sr_stop {U s f n0 j : Nat} (h : tm U s f n0 j = 0) : ∀ d, sr U s f n0 (j + d) = sr U s f n0 j
  | 0 => rfl
  | d + 1 => by
    have h1 := sr_stop h d
    have h2 := tm_none h d
    show (if (j + d) % 2 = 0 then sr U s f n0 (j + d) + ((tm U s f n0 (j + d) : Nat) : Int) else sr U s f n0 (j + d) - ((tm U s f n0 (j + d) : Nat) : Int)) = _
    rw [h1, h2]
    split <;> omega
/-- the sine's and the cosine's sums, of an angle x in units of which U are 1 -/
def sS (U n x : Nat) : Int := sr U (x * x / U) x 2 n
def cS (U n x : Nat) : Int := sr U (x * x / U) U 1 n
theorem sq_le {U x : Nat} (hU : 0 < U) (hx : x ≤ U) : x * x / U ≤ U := by
  have := Nat.mul_le_mul_left x hx
  exact Nat.le_trans (Nat.div_le_div_right this) (by rw [Nat.mul_div_cancel _ hU]; exact hx)
theorem sS_bd {U x : Nat} (hU : 0 < U) (hx : x ≤ U) (n : Nat) : 0 ≤ sS U n x ∧ sS U n x ≤ x := sr_bd hU (sq_le hU hx) n
theorem cS_bd {U x : Nat} (hU : 0 < U) (hx : x ≤ U) (n : Nat) : 0 ≤ cS U n x ∧ cS U n x ≤ U := sr_bd hU (sq_le hU hx) n
/-! ### what is left out -/
/-- as many units as are 1 -/
def uP : Nat := 2 ^ 248
theorem uP_pos : 0 < uP := by decide
/-- the bounds: 32 units below (0 at least) and above -/
def lo32 (S : Int) : Nat := (S - 32).toNat
def hi32 (S : Int) : Nat := (S + 32).toNat
/-- the facts of an angle: s, c are the sine and the cosine in units -/
structure Fx (x : Nat) (s c : Rat) : Prop where
  s0 : 0 ≤ s
  c0 : ((uP : Nat) : Rat) ≤ 2 * c
  sl : ((sS uP 29 x : Int) : Rat) ≤ s + 29
  sh : s ≤ ((sS uP 29 x : Int) : Rat) + 31
  cl : ((cS uP 29 x : Int) : Rat) ≤ c + 29
  ch : c ≤ ((cS uP 29 x : Int) : Rat) + 31
end Go.Fx
namespace Go.Proofs.YtjkgnbdeklploaaGreatDoor
open Go.KRun Go.Wd
set_option maxRecDepth 100000
def conFB : Con := alt 167 (g2 (plain2 fmV4)) (alt 172 gQR conFA)
theorem conFB_ok : ConOk conFB := alt_ok Tryz.func167 rfl (plain2_ok fm_calls) (alt_ok Tryz.func172 rfl gQR_ok conFA_ok)
/-- the divisor of a term -/
def ptD (n : Int) : W4 := ⟨IntKind.u64.wrap (n * IntKind.u64.wrap (n + 1)), 0, 0, 0⟩
def ptW (t s : W4) (n : Int) : W4 := W4.of ((W4.of (fmI t s)).val / (ptD n).val)
theorem pt_fits (t s : W4) (n : Int) : Fits (reckon (tabOf Tryz.prog extY conFB true) 300 170 [vW t, vW s, .int .u64 n] []) (vW (ptW t s n)) [nz2 (W4.of (fmI t s)) (ptD n), nz2 (W4.of (fmI t s)) (ptD n), nz2 (W4.of (fmI t s)) (ptD n), nz2 (W4.of (fmI t s)) (ptD n), nz2 (W4.of (fmI t s)) (ptD n), nz2 (W4.of (fmI t s)) (ptD n), nz2 (W4.of (fmI t s)) (ptD n), nz2 (W4.of (fmI t s)) (ptD n), nz2 (W4.of (fmI t s)) (ptD n), nz2 (W4.of (fmI t s)) (ptD n), nz2 (W4.of (fmI t s)) (ptD n), q2 t s] := ⟨by kernel_rfl, by kernel_rfl, by kernel_rfl, by kernel_rfl⟩
def okPt (t s : W4) (n : Int) : Bool × Bool := (decide (t.ok ∧ s.ok ∧ fmI t s < 115792089237316195423570985008687907853269984665640564039457584007913129639936 ∧ 1 ≤ n ∧ n ≤ 1000), true)
theorem pt_calls (t s : W4) (n : Int) (h : t.ok ∧ s.ok ∧ fmI t s < 115792089237316195423570985008687907853269984665640564039457584007913129639936 ∧ 1 ≤ n ∧ n ≤ 1000) (w : World) : Calls Tryz.prog 170 #[vW t, vW s, .int .u64 n] w fun e w' => e = .returned (vW (W4.of (fmI t s / (n * (n + 1))))) ∧ Tidy w w' := by
  obtain ⟨ht, hs, hf, h1, h2⟩ := h
  have h0 : 0 ≤ fmI t s := Int.ediv_nonneg (mul_bd2 ht hs).1 (by omega)
  have bn : 0 < n * (n + 1) := Int.mul_pos (by omega) (by omega)
  have bm : n * (n + 1) ≤ 1000 * 1001 := Int.mul_le_mul h2 (by omega) (by omega) (by omega)
  have ew : IntKind.u64.wrap (n * IntKind.u64.wrap (n + 1)) = n * (n + 1) := by
    rw [wrap_u64' (n := n + 1) (by omega) (by omega), wrap_u64' (by omega) (by omega)]
  have eD : ptD n = ⟨n * (n + 1), 0, 0, 0⟩ := by unfold ptD; rw [ew]
  have vD : (ptD n).val = n * (n + 1) := by rw [eD]; unfold W4.val; dsimp only; omega
  have oD : (ptD n).ok := by rw [eD]; exact ⟨⟨by dsimp only; omega, by dsimp only; omega⟩, z64, z64, z64⟩
  have e1 : ptW t s n = W4.of (fmI t s / (n * (n + 1))) := by
    unfold ptW
    rw [vD, W4.val_of, Int.emod_eq_of_lt h0 hf]
  have q : (nz2 (W4.of (fmI t s)) (ptD n)).1 = (nz2 (W4.of (fmI t s)) (ptD n)).2 := decide_eq_true ⟨W4.ok_of _, oD, by rw [vD]; omega⟩
  rw [← e1]
  exact fits_calls (tabY_ok conFB_ok) (pt_fits t s n) ((okCons q (okCons q (okCons q (okCons q (okCons q (okCons q (okCons q (okCons q (okCons q (okCons q (okCons q (okL1 (decide_eq_true ⟨ht, hs⟩)))))))))))))) (by rfl) (by rfl) w
def gPrt : Ans := fun vals s =>
  match vals with
  | [x, y, .int .u64 n] =>
    match w4 x, w4 y with
    | some a, some b => some (vW (W4.of (fmI a b / (n * (n + 1)))), s, [okPt a b n])
    | _, _ => none
  | _ => none
theorem gPrt_ok : AnsOk 170 gPrt := by
  intro vals s v s' lg h hl w
  unfold gPrt at h
  split at h
  · split at h
    · rename_i a b ha hb
      cases h
      have h1 := hl _ (List.mem_singleton.2 rfl)
      simp only [okPt, decide_eq_true_eq] at h1
      rw [w4_spec ha, w4_spec hb]
      exact pt_calls a b _ h1 w
    · cases h
  · cases h
/-! ### bounds -/
def conFC : Con := alt 144 (g2 subB) (alt 143 (g2 (plain2 addV4)) conN)
theorem conFC_ok : ConOk conFC := alt_ok Tryz.func144 rfl subB_ok (alt_ok Tryz.func143 rfl (plain2_ok add_calls) conN_ok)
def w32 : W4 := ⟨32, 0, 0, 0⟩
theorem bd_low (x : W4) : Fits (reckon (tabOf Tryz.prog extY conFC true) 300 164 [vW x] [tst true]) (.tuple #[vW ⟨0, 0, 0, 0⟩, vW (W4.of (x.val + w32.val))]) [q2 x w32, q2 x w32, (decide (x.val < w32.val), true)] := ⟨by kernel_rfl, by kernel_rfl, by kernel_rfl, by kernel_rfl⟩
theorem bd_in (x : W4) : Fits (reckon (tabOf Tryz.prog extY conFC true) 300 164 [vW x] [tst false]) (.tuple #[vW (W4.of (x.val - w32.val)), vW (W4.of (x.val + w32.val))]) [q2 x w32, q2 x w32, (decide (x.val < w32.val), false)] := ⟨by kernel_rfl, by kernel_rfl, by kernel_rfl, by kernel_rfl⟩
/-- the bounds of a sum -/
def bdV4 (x : W4) : Value := .tuple #[vW (ofN (Go.Fx.lo32 x.val)), vW (ofN (Go.Fx.hi32 x.val))]
theorem bd_calls (x : W4) (hx : x.ok) (w : World) : Calls Tryz.prog 164 #[vW x] w fun e w' => e = .returned (bdV4 x) ∧ Tidy w w' := by
  have b := W4.val_bd hx
  have v : w32.val = 32 := by rfl
  have o : w32.ok := ⟨⟨by decide, by decide⟩, z64, z64, z64⟩
  have q : (q2 x w32).1 = (q2 x w32).2 := decide_eq_true ⟨hx, o⟩
  have e2 : ofN (Go.Fx.hi32 x.val) = W4.of (x.val + w32.val) := by
    unfold ofN Go.Fx.hi32
    rw [v, Int.toNat_of_nonneg (by omega)]
  unfold bdV4
  rw [e2]
  by_cases c : x.val < w32.val
  · have e1 : ofN (Go.Fx.lo32 x.val) = ⟨0, 0, 0, 0⟩ := by
      unfold Go.Fx.lo32
      rw [show (x.val - 32).toNat = 0 by omega]
      exact ofN_zero
    rw [e1]
    exact fits_calls (tabY_ok conFC_ok) (bd_low x) (okCons q (okCons q (okL1 (decide_eq_true c)))) (by rfl) (by rfl) w
  · have e1 : ofN (Go.Fx.lo32 x.val) = W4.of (x.val - w32.val) := by
      unfold ofN Go.Fx.lo32
      rw [v, Int.toNat_of_nonneg (by omega)]
    rw [e1]
    exact fits_calls (tabY_ok conFC_ok) (bd_in x) (okCons q (okCons q (okL1 (decide_eq_false c)))) (by rfl) (by rfl) w
def conFS : Con := alt 170 gPrt (alt 167 (g2 (plain2 fmV4)) (alt 144 (g2 (plain2 subV4)) (alt 143 (g2 (plain2 addV4)) conN)))
theorem conFS_ok : ConOk conFS := alt_ok Tryz.func170 rfl gPrt_ok (alt_ok Tryz.func167 rfl (plain2_ok fm_calls) (alt_ok Tryz.func144 rfl (plain2_ok sub_calls) (alt_ok Tryz.func143 rfl (plain2_ok add_calls) conN_ok)))
def srP (F : Func) : List Code := [cFst (cBody F), cFst (cSnd (cBody F)), cFst (cSnd (cSnd (cBody F)))]
def srI (F : Func) : Code := cFst (cFst (cSnd (cSnd (cSnd (cBody F)))))
def srL (F : Func) : Code := cIn (cIn (cSnd (cFst (cSnd (cSnd (cSnd (cBody F)))))))
def srE (F : Func) : Code := cSnd (cSnd (cSnd (cSnd (cBody F))))
theorem sr_body : Tryz.f165.body = some (seqs (srP Tryz.f165) (.seq (.seq (srI Tryz.f165) (.block 0 (.loop (srL Tryz.f165)))) (srE Tryz.f165))) := by kernel_rfl
def aFx (n : Nat) : Value := .pointer (some ⟨n, 0, none⟩)
def kFx (x : W4) : List Value × TypeId := ([.int .u64 x.a, .int .u64 x.b, .int .u64 x.c, .int .u64 x.d], 159)
/-- the memory: the sum, the square, the answer, the angle, the term -/
def srH (t x q y : W4) : Hp := ⟨5, [kFx y, kFx q, kFx ⟨0, 0, 0, 0⟩, kFx x, kFx t]⟩
def srF (v0 v1 : Value) (n : Int) (v5 v8 v10 v11 v12 v13 v14 v15 v16 v17 : Value) (k : Int) : List Value := [v0, v1, .int .u64 n, aFx 0, aFx 1, v5, aFx 2, aFx 3, v8, aFx 4, v10, v11, v12, v13, v14, v15, v16, v17, .int .u64 k]
theorem sr_pre (t x : W4) (n : Int) : GoesT (evL (tabOf Tryz.prog extY conFS true) 300 (srP Tryz.f165) ([vW t, vW x, .int .u64 n] ++ List.replicate 39 undef, ⟨0, []⟩, []) ⟨[], [], []⟩) 18 24 none [vW t, vW x, .int .u64 n, aFx 0, aFx 1, undef, aFx 2, aFx 3, .bool (decide (115792089237316195423570985008687907853269984665640564039457584007913129639936 ≤ fmI x x)), aFx 4, undef, fmV4 x x, vW x, vW x, fmV4 x x, vW (W4.of (fmI x x)), .bool (decide (115792089237316195423570985008687907853269984665640564039457584007913129639936 ≤ fmI x x)), vW t] (srH t x (W4.of (fmI x x)) t) [q2 x x] := ⟨by kernel_rfl, by kernel_rfl, by kernel_rfl⟩
theorem sr_i (v0 v1 v2 v3 v4 v5 v6 v7 v8 v9 v10 v11 v12 v13 v14 v15 v16 v17 : Value) (g : Nat → Value) (h : Hp) : GoesT (evC (tabOf Tryz.prog extY conFS true) 100 false (srI Tryz.f165) ([v0, v1, v2, v3, v4, v5, v6, v7, v8, v9, v10, v11, v12, v13, v14, v15, v16, v17] ++ tl 24 g, h, []) ⟨[], [], []⟩) 19 23 none [v0, v1, v2, v3, v4, v5, v6, v7, v8, v9, v10, v11, v12, v13, v14, v15, v16, v17, .int .u64 0] h [] := ⟨by kernel_rfl, by kernel_rfl, by kernel_rfl⟩
section
variable (v0 v1 v5 v8 v10 v11 v12 v13 v14 v15 v16 v17 : Value) (t x q y : W4) (n k : Int) (g : Nat → Value)
/-- the term that comes -/
def srT (t q : W4) (n k : Int) : W4 := W4.of (fmI t q / (IntKind.u64.wrap (n + IntKind.u64.wrap (2 * k)) * (IntKind.u64.wrap (n + IntKind.u64.wrap (2 * k)) + 1)))
def srO (t q : W4) (n k : Int) : Bool × Bool := okPt t q (IntKind.u64.wrap (n + IntKind.u64.wrap (2 * k)))
theorem sr_out : GoesT (evC (tabOf Tryz.prog extY conFS true) 100 false (srL Tryz.f165) (srF v0 v1 n v5 v8 v10 v11 v12 v13 v14 v15 v16 v17 k ++ tl 23 g, srH t x q y, [cmp false]) ⟨[], [], []⟩) 19 23 (some (some 0)) (srF v0 v1 n v5 v8 v10 v11 v12 v13 v14 v15 v16 v17 k) (srH t x q y) [(decide (k < 28), false)] := ⟨by kernel_rfl, by kernel_rfl, by kernel_rfl⟩
theorem sr_brk : GoesT (evC (tabOf Tryz.prog extY conFS true) 100 false (srL Tryz.f165) (srF v0 v1 n v5 v8 v10 v11 v12 v13 v14 v15 v16 v17 k ++ tl 23 g, srH t x q y, [cmp true, sam true]) ⟨[], [], []⟩) 19 23 (some (some 0)) (srF v0 v1 n v5 v8 (.int .u64 k) v11 v12 v13 v14 v15 v16 v17 k) (srH (srT t q n k) x q y) [(eqW (srT t q n k) ⟨0, 0, 0, 0⟩, true), srO t q n k, (decide (k < 28), true)] := ⟨by kernel_rfl, by kernel_rfl, by kernel_rfl⟩
theorem sr_less : GoesT (evC (tabOf Tryz.prog extY conFS true) 100 false (srL Tryz.f165) (srF v0 v1 n v5 v8 v10 v11 v12 v13 v14 v15 v16 v17 k ++ tl 23 g, srH t x q y, [cmp true, sam false, cmp false, cmp true]) ⟨[], [], []⟩) 19 23 none (srF v0 v1 n v5 v8 (.int .u64 k) v11 v12 v13 v14 v15 v16 v17 (IntKind.u64.wrap (k + 1))) (srH (srT t q n k) x q (W4.of (y.val - (srT t q n k).val))) [q2 y (srT t q n k), (k.tmod 2 == 0, true), (decide ((2 : Int) = 0), false), (eqW (srT t q n k) ⟨0, 0, 0, 0⟩, false), srO t q n k, (decide (k < 28), true)] := ⟨by kernel_rfl, by kernel_rfl, by kernel_rfl⟩
theorem sr_plus : GoesT (evC (tabOf Tryz.prog extY conFS true) 100 false (srL Tryz.f165) (srF v0 v1 n v5 v8 v10 v11 v12 v13 v14 v15 v16 v17 k ++ tl 23 g, srH t x q y, [cmp true, sam false, cmp false, cmp false]) ⟨[], [], []⟩) 19 23 none (srF v0 v1 n v5 v8 (.int .u64 k) v11 v12 v13 v14 v15 v16 v17 (IntKind.u64.wrap (k + 1))) (srH (srT t q n k) x q (W4.of (y.val + (srT t q n k).val))) [q2 y (srT t q n k), (k.tmod 2 == 0, false), (decide ((2 : Int) = 0), false), (eqW (srT t q n k) ⟨0, 0, 0, 0⟩, false), srO t q n k, (decide (k < 28), true)] := ⟨by kernel_rfl, by kernel_rfl, by kernel_rfl⟩
theorem sr_end : GoesT (evC (tabOf Tryz.prog extY conFS true) 100 false (srE Tryz.f165) (srF v0 v1 n v5 v8 v10 v11 v12 v13 v14 v15 v16 v17 k ++ tl 23 g, srH t x q y, []) ⟨[], [], []⟩) 19 23 (some none) (srF v0 v1 n v5 v8 v10 v11 v12 v13 v14 v15 v16 v17 k) ⟨5, [kFx y, kFx q, kFx y, kFx x, kFx t]⟩ [] := ⟨by kernel_rfl, by kernel_rfl, by kernel_rfl⟩
end
theorem uP_is : Go.Fx.uP = 452312848583266388373324160190187140051835877600158453279131187530910662656 := by rfl
theorem of_sub (A b : Int) : W4.of ((W4.of A).val - b) = W4.of (A - b) := by
  rw [W4.val_of, ← of_mod (_ - b), ← of_mod (A - b)]
  congr 1
  omega
theorem of_add (A b : Int) : W4.of ((W4.of A).val + b) = W4.of (A + b) := by
  rw [W4.val_of, ← of_mod (_ + b), ← of_mod (A + b)]
  congr 1
  omega
theorem ofN_val {n : Nat} (h : n ≤ Go.Fx.uP) : (ofN n).val = (n : Int) := by
  rw [uP_is] at h
  unfold ofN
  rw [W4.val_of]
  omega
theorem fmI_of {a b : Nat} (ha : a ≤ Go.Fx.uP) (hb : b ≤ Go.Fx.uP) : fmI (ofN a) (ofN b) = ((a * b / Go.Fx.uP : Nat) : Int) := by
  unfold fmI
  rw [ofN_val ha, ofN_val hb, uP_is]
  omega
theorem ofN_none {n : Nat} (h : n ≤ Go.Fx.uP) : eqW (ofN n) ⟨0, 0, 0, 0⟩ = decide (n = 0) := by
  rw [Bool.eq_iff_iff, eqW_iff, decide_eq_true_eq]
  constructor
  · intro e
    have := congrArg W4.val e
    rw [ofN_val h] at this
    have z : (⟨0, 0, 0, 0⟩ : W4).val = 0 := rfl
    omega
  · rintro rfl
    exact ofN_zero
section
variable (f x n : Nat)
/-- the square; the terms; the sums -/
def sqF : Nat := x * x / Go.Fx.uP
def tF (k : Nat) : Nat := Go.Fx.tm Go.Fx.uP (sqF x) f n k
def yF (k : Nat) : Int := Go.Fx.sr Go.Fx.uP (sqF x) f n k
end
section
variable {f x n : Nat} (hf : f ≤ Go.Fx.uP) (hx : x ≤ Go.Fx.uP) (hn : 1 ≤ n ∧ n ≤ 100)
include hx in
theorem sqF_le : sqF x ≤ Go.Fx.uP := Go.Fx.sq_le Go.Fx.uP_pos hx
include hf hx in
theorem tF_le (k : Nat) : tF f x n k ≤ Go.Fx.uP := Nat.le_trans (Go.Fx.tm_le Go.Fx.uP_pos (sqF_le hx) k) hf
include hf hx hn in
theorem srT_is {k : Nat} (hk : k < 28) : srT (ofN (tF f x n k)) (ofN (sqF x)) (n : Int) (k : Int) = ofN (tF f x n (k + 1)) ∧ (srO (ofN (tF f x n k)) (ofN (sqF x)) (n : Int) (k : Int)).1 = (srO (ofN (tF f x n k)) (ofN (sqF x)) (n : Int) (k : Int)).2 := by
  have ew : IntKind.u64.wrap ((n : Int) + IntKind.u64.wrap (2 * (k : Int))) = ((n + 2 * k : Nat) : Int) := by
    rw [wrap_u64' (n := 2 * (k : Int)) (by omega) (by omega), wrap_u64' (by omega) (by omega)]
    omega
  have hfm := fmI_of (tF_le hf hx k) (sqF_le hx) (a := tF f x n k)
  have hle : tF f x n k * sqF x / Go.Fx.uP ≤ Go.Fx.uP := by
    have := Nat.mul_le_mul (tF_le hf hx k (n := n)) (sqF_le hx)
    exact Nat.le_trans (Nat.div_le_div_right this) (by rw [Nat.mul_div_cancel _ Go.Fx.uP_pos]; exact Nat.le_refl _)
  constructor
  · unfold srT ofN
    rw [ew]
    unfold ofN at hfm
    rw [hfm]
    congr 1
  · unfold srO okPt
    rw [ew]
    have n1 : (1 : Int) ≤ ((n + 2 * k : Nat) : Int) := by omega
    have n2 : ((n + 2 * k : Nat) : Int) ≤ 1000 := by omega
    have hl : fmI (ofN (tF f x n k)) (ofN (sqF x)) < 115792089237316195423570985008687907853269984665640564039457584007913129639936 := by
      rw [hfm]
      clear hfm
      generalize tF f x n k * sqF x / Go.Fx.uP = p at *
      rw [uP_is] at hle
      omega
    dsimp only
    exact decide_eq_true ⟨ofN_ok _, ofN_ok _, hl, n1, n2⟩
/-- what holds at the loop's head -/
def sI (f x n : Nat) (v0 v1 v5 v8 v11 v12 v13 v14 v15 v16 v17 : Value) (k : Nat) (y : Lf) : Prop := ∃ v10 g, y.1 = srF v0 v1 (n : Int) v5 v8 v10 v11 v12 v13 v14 v15 v16 v17 (k : Int) ++ tl 23 g ∧ y.2.1 = srH (ofN (tF f x n k)) (ofN x) (ofN (sqF x)) (W4.of (yF f x n (k + 1)))
def sFinX (f x n : Nat) (v0 v1 v5 v8 v11 v12 v13 v14 v15 v16 v17 : Value) (y : Lf) : Prop := ∃ v10 t k g, y.1 = srF v0 v1 (n : Int) v5 v8 v10 v11 v12 v13 v14 v15 v16 v17 k ++ tl 23 g ∧ y.2.1 = srH t (ofN x) (ofN (sqF x)) (W4.of (yF f x n 29))
include hf hx hn in
theorem sr_round (v0 v1 v5 v8 v11 v12 v13 v14 v15 v16 v17 : Value) {k : Nat} (hk : k ≤ 28) {y : Lf} (h : sI f x n v0 v1 v5 v8 v11 v12 v13 v14 v15 v16 v17 k y) :
    Runs (tabOf Tryz.prog extY conFS true) (srL Tryz.f165) y fun e z => match e with | none => k < 28 ∧ sI f x n v0 v1 v5 v8 v11 v12 v13 v14 v15 v16 v17 (k + 1) z | some none => False | some (some id') => id' = 0 ∧ sFinX f x n v0 v1 v5 v8 v11 v12 v13 v14 v15 v16 v17 z := by
  obtain ⟨t, h', s⟩ := y
  obtain ⟨v10, g, ht, hh⟩ := h
  simp only at ht hh
  subst ht hh
  have T := tabY_ok conFS_ok
  by_cases c : k < 28
  · have hlt : decide ((k : Int) < 28) = true := decide_eq_true (by omega)
    obtain ⟨e1, o1⟩ := srT_is hf hx hn c
    have e2 := ofN_none (tF_le hf hx (n := n) (k + 1))
    have ek : IntKind.u64.wrap ((k : Int) + 1) = ((k + 1 : Nat) : Int) := by rw [wrap_u64' (by omega) (by omega)]; omega
    have oQ : (q2 (W4.of (yF f x n (k + 1))) (ofN (tF f x n (k + 1)))).1 = (q2 (W4.of (yF f x n (k + 1))) (ofN (tF f x n (k + 1)))).2 := decide_eq_true ⟨W4.ok_of _, ofN_ok _⟩
    have hv := ofN_val (tF_le hf hx (n := n) (k + 1))
    by_cases z : tF f x n (k + 1) = 0
    · have hg := sr_brk v0 v1 v5 v8 v10 v11 v12 v13 v14 v15 v16 v17 (ofN (tF f x n k)) (ofN x) (ofN (sqF x)) (W4.of (yF f x n (k + 1))) n k g
      rw [e1] at hg
      refine (goesT_runs (s0 := s) T hg (okPC (by rw [e2]; exact decide_eq_true z) (okPC o1 (okP1 hlt)))).mono fun e w hw => ?_
      obtain ⟨rfl, ⟨g', z1⟩, z2⟩ := hw
      refine ⟨rfl, _, ofN (tF f x n (k + 1)), _, g', z1, ?_⟩
      have : yF f x n 29 = yF f x n (k + 1) := by
        have := Go.Fx.sr_stop z (28 - k)
        rw [show k + 1 + (28 - k) = 29 by omega] at this
        exact this
      rw [z2, this]
    · have e2' : eqW (ofN (tF f x n (k + 1))) ⟨0, 0, 0, 0⟩ = false := by rw [e2]; exact decide_eq_false z
      rcases Nat.mod_two_eq_zero_or_one k with m | m
      · have hg := sr_less v0 v1 v5 v8 v10 v11 v12 v13 v14 v15 v16 v17 (ofN (tF f x n k)) (ofN x) (ofN (sqF x)) (W4.of (yF f x n (k + 1))) n k g
        rw [e1, ek, hv, of_sub] at hg
        have hm : ((k : Int).tmod 2 == 0) = true := by rw [beq_iff_eq, Int.tmod_eq_emod_of_nonneg (by omega)]; omega
        refine (goesT_runs (s0 := s) T hg (okPC oQ (okPC hm (okPC (by decide) (okPC e2' (okPC o1 (okP1 hlt))))))).mono fun e w hw => ?_
        obtain ⟨rfl, ⟨g', z1⟩, z2⟩ := hw
        refine ⟨c, _, g', z1, ?_⟩
        have : yF f x n (k + 1 + 1) = yF f x n (k + 1) - ((tF f x n (k + 1) : Nat) : Int) := by
          show (if (k + 1) % 2 = 0 then _ else _) = _
          rw [if_neg (by omega)]
          rfl
        rw [z2, this]
      · have hg := sr_plus v0 v1 v5 v8 v10 v11 v12 v13 v14 v15 v16 v17 (ofN (tF f x n k)) (ofN x) (ofN (sqF x)) (W4.of (yF f x n (k + 1))) n k g
        rw [e1, ek, hv, of_add] at hg
        have hm : ((k : Int).tmod 2 == 0) = false := by rw [beq_eq_false_iff_ne, Int.tmod_eq_emod_of_nonneg (by omega)]; omega
        refine (goesT_runs (s0 := s) T hg (okPC oQ (okPC hm (okPC (by decide) (okPC e2' (okPC o1 (okP1 hlt))))))).mono fun e w hw => ?_
        obtain ⟨rfl, ⟨g', z1⟩, z2⟩ := hw
        refine ⟨c, _, g', z1, ?_⟩
        have : yF f x n (k + 1 + 1) = yF f x n (k + 1) + ((tF f x n (k + 1) : Nat) : Int) := by
          show (if (k + 1) % 2 = 0 then _ else _) = _
          rw [if_pos (by omega)]
          rfl
        rw [z2, this]
  · have e : k = 28 := by omega
    subst e
    refine (goesT_runs (s0 := s) T (sr_out v0 v1 v5 v8 v10 v11 v12 v13 v14 v15 v16 v17 (ofN (tF f x n 28)) (ofN x) (ofN (sqF x)) (W4.of (yF f x n (28 + 1))) n ((28 : Nat) : Int) g) (okL1 (by decide))).mono fun e w hw => ?_
    obtain ⟨rfl, ⟨g', z1⟩, z2⟩ := hw
    exact ⟨rfl, _, _, _, g', z1, z2⟩
include hf hx hn in
theorem series_calls (w : World) : Calls Tryz.prog 165 #[vW (ofN f), vW (ofN x), .int .u64 (n : Int)] w fun e w' => e = .returned (vW (W4.of (yF f x n 29))) ∧ Tidy w w' := by
  have T := tabY_ok conFS_ok
  refine calls_of_runs (T := tabOf Tryz.prog extY conFS true) Tryz.func165 sr_body (vals := [vW (ofN f), vW (ofN x), .int .u64 (n : Int)]) (by rfl) (by rfl) ?_ w
  refine goesT_list T (sr_pre (ofN f) (ofN x) n) (okL1 (decide_eq_true ⟨ofN_ok _, ofN_ok _⟩)) fun g => ?_
  have es : W4.of (fmI (ofN x) (ofN x)) = ofN (sqF x) := by rw [fmI_of hx hx]; rfl
  rw [es]
  refine Runs.seq (P1 := fun e y => e = none ∧ ∃ v0 v1 v5 v8 v11 v12 v13 v14 v15 v16 v17, sFinX f x n v0 v1 v5 v8 v11 v12 v13 v14 v15 v16 v17 y) ?_ ?_ (fun e y he => by cases he.1)
  · refine Runs.seq (goesT_runs T (sr_i _ _ _ _ _ _ _ _ _ _ _ _ _ _ _ _ _ _ g _) okNil) ?_ (fun e y he => by cases he.1)
    rintro ⟨t, h', s⟩ ⟨_, ⟨g', ht⟩, hh⟩
    simp only at ht hh
    subst ht hh
    refine (Runs.forLoop (T := tabOf Tryz.prog extY conFS true) (c := srL Tryz.f165) (id := 0) (R := fun _ => False) (P := fun y => ∃ v0 v1 v5 v8 v11 v12 v13 v14 v15 v16 v17, sFinX f x n v0 v1 v5 v8 v11 v12 v13 v14 v15 v16 v17 y) (fun j y => ∃ k, j = 28 - k ∧ k ≤ 28 ∧ sI f x n _ _ _ _ _ _ _ _ _ _ _ k y) ?_ (n := 28) ⟨0, by omega, by omega, _, g', rfl, ?_⟩).mono fun e z hz => ?_
    · rintro j y ⟨k, hj, hk, hI⟩
      refine (sr_round hf hx hn _ _ _ _ _ _ _ _ _ _ _ hk hI).mono fun e z hz => ?_
      match e, hz with
      | none, hz => exact ⟨28 - (k + 1), by omega, k + 1, rfl, by omega, hz.2⟩
      | some none, hz => exact hz.elim
      | some (some _), hz => exact ⟨hz.1, _, _, _, _, _, _, _, _, _, _, _, hz.2⟩
    · have : yF f x n (0 + 1) = (f : Int) := by
        show (0 : Int) + ((f : Nat) : Int) = _
        omega
      rw [this]
      rfl
    · match e, hz with
      | none, hz => exact ⟨rfl, hz⟩
      | some none, hz => exact hz.elim
      | some (some _), hz => exact hz.elim
  · rintro ⟨t, h', s⟩ ⟨_, v0, v1, v5, v8, v11, v12, v13, v14, v15, v16, v17, v10, tt, k, g', ht, hh⟩
    simp only at ht hh
    subst ht hh
    refine (goesT_runs T (sr_end v0 v1 v5 v8 v10 v11 v12 v13 v14 v15 v16 v17 tt (ofN x) (ofN (sqF x)) (W4.of (yF f x n 29)) n k g') okNil).mono fun e z hz => ?_
    obtain ⟨rfl, ⟨g2, z1⟩, z2⟩ := hz
    refine ⟨.inr rfl, ?_⟩
    rw [z1, z2]
    rfl
end
def okSer (a b : W4) (n : Int) : Bool × Bool := (decide (a.ok ∧ b.ok ∧ a.nat ≤ Go.Fx.uP ∧ b.nat ≤ Go.Fx.uP ∧ 1 ≤ n ∧ n ≤ 100), true)
def serW (a b : W4) (n : Int) : W4 := W4.of (yF a.nat b.nat n.toNat 29)
def gSer : Ans := fun vals s =>
  match vals with
  | [x, y, .int .u64 n] =>
    match w4 x, w4 y with
    | some a, some b => some (vW (serW a b n), s, [okSer a b n])
    | _, _ => none
  | _ => none
theorem gSer_ok : AnsOk 165 gSer := by
  intro vals s v s' lg h hl w
  unfold gSer at h
  split at h
  · rename_i x y n
    split at h
    · rename_i a b ha hb
      cases h
      have h1 := hl _ (List.mem_singleton.2 rfl)
      simp only [okSer, decide_eq_true_eq] at h1
      obtain ⟨k1, k2, k3, k4, k5, k6⟩ := h1
      rw [w4_spec ha, w4_spec hb]
      have := series_calls (n := Int.toNat n) k3 k4 ⟨by omega, by omega⟩ w
      rw [ofN_self k1, ofN_self k2, Int.toNat_of_nonneg (by omega)] at this
      exact this
    · cases h
  · cases h
def conFO : Con := alt 141 (g1n (plain1n shlV4)) conN
theorem conFO_ok : ConOk conFO := alt_ok Tryz.func141 rfl (plain1n_ok shl_calls) conN_ok
/-- 1 -/
def oneW : W4 := ⟨0, 0, 0, 72057594037927936⟩
def g0 (k : Value) : Ans := fun vals s => match vals with | [] => some (k, s, []) | _ => none
theorem g0_ok {f : Nat} {k : Value} (hk : ∀ w, Calls Tryz.prog f #[] w fun e w' => e = .returned k ∧ Tidy w w') : AnsOk f (g0 k) := by
  intro vals s v s' lg h hl w
  unfold g0 at h
  split at h
  · cases h
    exact hk w
  · cases h
theorem one_fits : Fits (reckon (tabOf Tryz.prog extY conFO true) 300 163 [] []) (vW (shlW ⟨1, 0, 0, 0⟩ 248)) [qk ⟨1, 0, 0, 0⟩ 248] := ⟨by kernel_rfl, by kernel_rfl, by kernel_rfl, by kernel_rfl⟩
theorem one_calls (w : World) : Calls Tryz.prog 163 #[] w fun e w' => e = .returned (vW oneW) ∧ Tidy w w' := by
  have e : shlW ⟨1, 0, 0, 0⟩ 248 = oneW := eqW_iff.1 (by decide +kernel)
  have := fits_calls (tabY_ok conFO_ok) one_fits (okL1 (by decide)) (by rfl) (by rfl) w
  rw [e] at this
  exact this
def conFT : Con := alt 163 (g0 (vW oneW)) (alt 119 (g2 (plain2 cmpV4)) (alt 165 gSer (alt 164 (g1 bdV4) conN)))
theorem conFT_ok : ConOk conFT := alt_ok Tryz.func163 rfl (g0_ok one_calls) (alt_ok Tryz.func119 rfl (plain2_ok cmp_calls) (alt_ok Tryz.func165 rfl gSer_ok (alt_ok Tryz.func164 rfl (g1_ok bd_calls) conN_ok)))
def cg1 (x : W4) (d : Bool) : Bool × Bool := (decide (cmpI x oneW > 0), d)
def oW (x : W4) : Bool × Bool := (decide x.ok, true)
theorem sin_big (x : W4) : Fits (reckon (tabOf Tryz.prog extY conFT true) 300 162 [vW x] [cmp true]) (.tuple #[vW ⟨0, 0, 0, 0⟩, vW ⟨0, 0, 0, 0⟩, .iface 44 (.int .i64 1)]) [cg1 x true, q2 x oneW] := ⟨by kernel_rfl, by kernel_rfl, by kernel_rfl, by kernel_rfl⟩
theorem sin_in (x : W4) : Fits (reckon (tabOf Tryz.prog extY conFT true) 300 162 [vW x] [cmp false]) (.tuple #[vW (ofN (Go.Fx.lo32 (serW x x 2).val)), vW (ofN (Go.Fx.hi32 (serW x x 2).val)), .nilIface]) [oW (serW x x 2), okSer x x 2, cg1 x false, q2 x oneW] := ⟨by kernel_rfl, by kernel_rfl, by kernel_rfl, by kernel_rfl⟩
theorem cos_big (x : W4) : Fits (reckon (tabOf Tryz.prog extY conFT true) 300 160 [vW x] [cmp true]) (.tuple #[vW ⟨0, 0, 0, 0⟩, vW ⟨0, 0, 0, 0⟩, .iface 44 (.int .i64 1)]) [cg1 x true, q2 x oneW] := ⟨by kernel_rfl, by kernel_rfl, by kernel_rfl, by kernel_rfl⟩
theorem cos_in (x : W4) : Fits (reckon (tabOf Tryz.prog extY conFT true) 300 160 [vW x] [cmp false]) (.tuple #[vW (ofN (Go.Fx.lo32 (serW oneW x 1).val)), vW (ofN (Go.Fx.hi32 (serW oneW x 1).val)), .nilIface]) [oW (serW oneW x 1), okSer oneW x 1, oW (serW oneW x 1), okSer oneW x 1, oW (serW oneW x 1), oW (serW oneW x 1), okSer oneW x 1, oW (serW oneW x 1), okSer oneW x 1, oW (serW oneW x 1), okSer oneW x 1, oW (serW oneW x 1), oW (serW oneW x 1), okSer oneW x 1, oW (serW oneW x 1), okSer oneW x 1, oW (serW oneW x 1), oW (serW oneW x 1), okSer oneW x 1, oW (serW oneW x 1), okSer oneW x 1, oW (serW oneW x 1), oW (serW oneW x 1), okSer oneW x 1, oW (serW oneW x 1), oW (serW oneW x 1), oW (serW oneW x 1), oW (serW oneW x 1), oW (serW oneW x 1), okSer oneW x 1, cg1 x false, q2 x oneW] := ⟨by kernel_rfl, by kernel_rfl, by kernel_rfl, by kernel_rfl⟩
theorem oneW_ok : oneW.ok := by decide
theorem oneW_nat : oneW.nat = Go.Fx.uP := by rfl
theorem cg1_iff {x : W4} (hx : x.ok) : cmpI x oneW > 0 ↔ Go.Fx.uP < x.nat := by
  have h := W4.nat_val hx
  have e : oneW.val = 452312848583266388373324160190187140051835877600158453279131187530910662656 := by rfl
  rw [uP_is]
  unfold cmpI
  rw [e, h]
  split
  · omega
  · split <;> omega
theorem serW_val {a b n : Nat} (ha : a ≤ Go.Fx.uP) (hb : b ≤ Go.Fx.uP) : (W4.of (yF a b n 29)).val = yF a b n 29 := by
  have h : 0 ≤ yF a b n 29 ∧ yF a b n 29 ≤ (a : Int) := Go.Fx.sr_bd Go.Fx.uP_pos (Go.Fx.sq_le Go.Fx.uP_pos hb) 29
  rw [uP_is] at ha
  rw [W4.val_of, Int.emod_eq_of_lt h.1 (by omega)]
/-- the bounds -/
def slN (x : W4) : Nat := Go.Fx.lo32 (Go.Fx.sS Go.Fx.uP 29 x.nat)
def shN (x : W4) : Nat := Go.Fx.hi32 (Go.Fx.sS Go.Fx.uP 29 x.nat)
def clN (x : W4) : Nat := Go.Fx.lo32 (Go.Fx.cS Go.Fx.uP 29 x.nat)
def chN (x : W4) : Nat := Go.Fx.hi32 (Go.Fx.cS Go.Fx.uP 29 x.nat)
def tooV : Value := .tuple #[vW ⟨0, 0, 0, 0⟩, vW ⟨0, 0, 0, 0⟩, .iface 44 (.int .i64 1)]
def sinV (x : W4) : Value := .tuple #[vW (ofN (slN x)), vW (ofN (shN x)), .nilIface]
def cosV (x : W4) : Value := .tuple #[vW (ofN (clN x)), vW (ofN (chN x)), .nilIface]
/-- of an angle: above 1 an error; told ahead -/
def gAng (k : W4 → Value) : Ans := fun vals s =>
  match vals, s with
  | [x], .inr (.inr (.inr (.inl d))) :: s' =>
    match w4 x, d with
    | some a, true => some (tooV, s', [(decide (Go.Fx.uP < a.nat), true), (decide a.ok, true)])
    | some a, false => some (k a, s', [(decide (Go.Fx.uP < a.nat), false), (decide a.ok, true)])
    | _, _ => none
  | _, _ => none
theorem gAng_ok {f : Nat} {k : W4 → Value} (hk : ∀ x : W4, x.ok → ∀ w, Calls Tryz.prog f #[vW x] w fun e w' => e = .returned (if Go.Fx.uP < x.nat then tooV else k x) ∧ Tidy w w') : AnsOk f (gAng k) := by
  intro vals s v s' lg h hl w
  unfold gAng at h
  split at h
  · rename_i x d s2
    split at h
    · rename_i a ha
      cases h
      have h1 := of_decide_eq_true (hl _ List.mem_cons_self)
      have h2 := of_decide_eq_true (hl _ (List.mem_cons_of_mem _ (List.mem_singleton.2 rfl)))
      have := hk a h2 w
      rw [if_pos h1] at this
      rw [w4_spec ha]
      exact this
    · rename_i a ha
      cases h
      have h1 := of_decide_eq_false (hl _ List.mem_cons_self)
      have h2 := of_decide_eq_true (hl _ (List.mem_cons_of_mem _ (List.mem_singleton.2 rfl)))
      have := hk a h2 w
      rw [if_neg h1] at this
      rw [w4_spec ha]
      exact this
    · cases h
  · cases h
theorem sin_calls (x : W4) (hx : x.ok) (w : World) : Calls Tryz.prog 162 #[vW x] w fun e w' => e = .returned (if Go.Fx.uP < x.nat then tooV else sinV x) ∧ Tidy w w' := by
  have T := tabY_ok conFT_ok
  have h2 : (q2 x oneW).1 = (q2 x oneW).2 := decide_eq_true ⟨hx, oneW_ok⟩
  by_cases c : Go.Fx.uP < x.nat
  · rw [if_pos c]
    have h1 : (cg1 x true).1 = (cg1 x true).2 := decide_eq_true ((cg1_iff hx).2 c)
    exact fits_calls T (sin_big x) (okPC h1 (okPC h2 okNil)) (by rfl) (by rfl) w
  · rw [if_neg c]
    have h1 : (cg1 x false).1 = (cg1 x false).2 := decide_eq_false fun h => c ((cg1_iff hx).1 h)
    have hl : x.nat ≤ Go.Fx.uP := by omega
    have h3 : (okSer x x 2).1 = (okSer x x 2).2 := decide_eq_true ⟨hx, hx, hl, hl, by decide, by decide⟩
    have h4 : (oW (serW x x 2)).1 = (oW (serW x x 2)).2 := decide_eq_true (W4.ok_of _)
    have e : (serW x x 2).val = Go.Fx.sS Go.Fx.uP 29 x.nat := serW_val hl hl
    have := fits_calls T (sin_in x) (okPC h4 (okPC h3 (okPC h1 (okPC h2 okNil)))) (by rfl) (by rfl) w
    rw [e] at this
    exact this
theorem cos_calls (x : W4) (hx : x.ok) (w : World) : Calls Tryz.prog 160 #[vW x] w fun e w' => e = .returned (if Go.Fx.uP < x.nat then tooV else cosV x) ∧ Tidy w w' := by
  have T := tabY_ok conFT_ok
  have h2 : (q2 x oneW).1 = (q2 x oneW).2 := decide_eq_true ⟨hx, oneW_ok⟩
  by_cases c : Go.Fx.uP < x.nat
  · rw [if_pos c]
    have h1 : (cg1 x true).1 = (cg1 x true).2 := decide_eq_true ((cg1_iff hx).2 c)
    exact fits_calls T (cos_big x) (okPC h1 (okPC h2 okNil)) (by rfl) (by rfl) w
  · rw [if_neg c]
    have h1 : (cg1 x false).1 = (cg1 x false).2 := decide_eq_false fun h => c ((cg1_iff hx).1 h)
    have hl : x.nat ≤ Go.Fx.uP := by omega
    have h3 : (okSer oneW x 1).1 = (okSer oneW x 1).2 := decide_eq_true ⟨oneW_ok, hx, Nat.le_of_eq oneW_nat, hl, by decide, by decide⟩
    have h4 : (oW (serW oneW x 1)).1 = (oW (serW oneW x 1)).2 := decide_eq_true (W4.ok_of _)
    have e : (serW oneW x 1).val = Go.Fx.cS Go.Fx.uP 29 x.nat := serW_val (Nat.le_of_eq oneW_nat) hl
    have := fits_calls T (cos_in x) (okPC h4 (okPC h3 (okPC h4 (okPC h3 (okPC h4 (okPC h4 (okPC h3 (okPC h4 (okPC h3 (okPC h4 (okPC h3 (okPC h4 (okPC h4 (okPC h3 (okPC h4 (okPC h3 (okPC h4 (okPC h4 (okPC h3 (okPC h4 (okPC h3 (okPC h4 (okPC h4 (okPC h3 (okPC h4 (okPC h4 (okPC h4 (okPC h4 (okPC h4 (okPC h3 (okPC h1 (okPC h2 okNil)))))))))))))))))))))))))))))))) (by rfl) (by rfl) w
    rw [e] at this
    exact this
def errF (k : Int) : Value := .iface 44 (.int .i64 k)
theorem qz_fits (a b : W4) : Fits (reckon (tabOf Tryz.prog extY conN true) 300 172 [vW a, vW b] [sam true]) (.tuple #[vW ⟨0, 0, 0, 0⟩, vW ⟨0, 0, 0, 0⟩, errF 5]) [(eqW b ⟨0, 0, 0, 0⟩, true)] := ⟨by kernel_rfl, by kernel_rfl, by kernel_rfl, by kernel_rfl⟩
/-- the quotient and the rest, or the error; told ahead whether it is by nothing -/
def gQZ : Ans := fun vals s =>
  match vals, s with
  | [x, y], .inr (.inr (.inr (.inl d))) :: s' =>
    match w4 x, w4 y, d with
    | some a, some b, true => some (.tuple #[vW ⟨0, 0, 0, 0⟩, vW ⟨0, 0, 0, 0⟩, errF 5], s', [(decide (b.val = 0), true), q2 a b])
    | some a, some b, false => some (qrV (W4.of (a.val / b.val)) (W4.of (a.val % b.val)), s', [(decide (b.val = 0), false), q2 a b])
    | _, _, _ => none
  | _, _ => none
theorem gQZ_ok : AnsOk 172 gQZ := by
  intro vals s v s' lg h hl w
  unfold gQZ at h
  split at h
  · split at h
    · rename_i a b ha hb
      cases h
      have h1 := of_decide_eq_true (hl _ List.mem_cons_self)
      have h2 := hl _ (List.mem_cons_of_mem _ (List.mem_singleton.2 rfl))
      simp only [q2, decide_eq_true_eq] at h2
      rw [w4_spec ha, w4_spec hb]
      have e : b = ⟨0, 0, 0, 0⟩ := W4.val_inj h2.2 ⟨z64, z64, z64, z64⟩ (h1.trans (by rfl))
      exact fits_calls (tabY_ok conN_ok) (qz_fits a b) (okP1 (eqW_iff.2 e)) (by rfl) (by rfl) w
    · rename_i a b ha hb
      cases h
      have h1 := of_decide_eq_false (hl _ List.mem_cons_self)
      have h2 := hl _ (List.mem_cons_of_mem _ (List.mem_singleton.2 rfl))
      simp only [q2, decide_eq_true_eq] at h2
      rw [w4_spec ha, w4_spec hb]
      exact divmod_calls a b h2.1 h2.2 h1 w
    · cases h
  · cases h
def conFQ : Con := alt 172 gQZ conFA
theorem conFQ_ok : ConOk conFQ := alt_ok Tryz.func172 rfl gQZ_ok conFA_ok
def nW1 (n : Int) : W4 := ⟨n, 0, 0, 0⟩
def foA (n : Int) : W4 := shlW (nW1 n) 192
def foQ (n d : Int) : W4 := W4.of ((foA n).val / (nW1 d).val)
def foR (n d : Int) : W4 := W4.of ((foA n).val % (nW1 d).val)
def foL (n d : Int) : W4 := W4.of ((shlW (foR n d) 56).val / (nW1 d).val)
def foW (n d : Int) : W4 := W4.of ((shlW (foQ n d) 56).val + (foL n d).val)
def zW : W4 := ⟨0, 0, 0, 0⟩
def lq1 (n d : Int) (b : Bool) : Bool × Bool := (decide (lenI (foQ n d) > 200), b)
theorem fo_zero (n d : Int) : Fits (reckon (tabOf Tryz.prog extY conFQ true) 300 166 [.int .u64 n, .int .u64 d] [cmp true]) (.tuple #[vW zW, errF 5]) [(decide ((nW1 d).val = 0), true), q2 (foA n) (nW1 d), qk (nW1 n) 192] := ⟨by kernel_rfl, by kernel_rfl, by kernel_rfl, by kernel_rfl⟩
theorem fo_long (n d : Int) : Fits (reckon (tabOf Tryz.prog extY conFQ true) 300 166 [.int .u64 n, .int .u64 d] [cmp false, cmp true]) (.tuple #[vW zW, errF 2]) [lq1 n d true, oW (foQ n d), (decide ((nW1 d).val = 0), false), q2 (foA n) (nW1 d), qk (nW1 n) 192] := ⟨by kernel_rfl, by kernel_rfl, by kernel_rfl, by kernel_rfl⟩
theorem fo_in (n d : Int) : Fits (reckon (tabOf Tryz.prog extY conFQ true) 300 166 [.int .u64 n, .int .u64 d] [cmp false, cmp false, cmp false]) (.tuple #[vW (foW n d), .nilIface]) [q2 (shlW (foQ n d) 56) (foL n d), qk (foQ n d) 56, (decide ((nW1 d).val = 0), false), q2 (shlW (foR n d) 56) (nW1 d), qk (foR n d) 56, lq1 n d false, oW (foQ n d), (decide ((nW1 d).val = 0), false), q2 (foA n) (nW1 d), qk (nW1 n) 192] := ⟨by kernel_rfl, by kernel_rfl, by kernel_rfl, by kernel_rfl⟩
/-- the quotient -/
def foI (n d : Int) : Int := n * 452312848583266388373324160190187140051835877600158453279131187530910662656 / d
abbrev uu (n d : Int) : Prop := (0 ≤ n ∧ n < 18446744073709551616) ∧ 0 ≤ d ∧ d < 18446744073709551616
theorem nW1_val (n : Int) : (nW1 n).val = n := by unfold nW1 W4.val; dsimp only; omega
theorem shl_ok1 (x : W4) (k : Int) (h : x.ok) : (shlW x k).ok := by
  unfold shlW
  split
  · exact h
  · split
    · exact ⟨z64, z64, z64, z64⟩
    · exact W4.ok_of _
theorem fo_num {n d : Int} (h : uu n d) (hd : d ≠ 0) : (lenI (foQ n d) > 200 ↔ 115792089237316195423570985008687907853269984665640564039457584007913129639936 ≤ foI n d) ∧ (¬ 115792089237316195423570985008687907853269984665640564039457584007913129639936 ≤ foI n d → foW n d = W4.of (foI n d)) := by
  obtain ⟨⟨n0, n1⟩, d0, d1⟩ := h
  have e192 : (2 : Int) ^ (192 : Int).toNat = 6277101735386680763835789423207666416102355444464034512896 := by rfl
  have e56 : (2 : Int) ^ (56 : Int).toNat = 72057594037927936 := by rfl
  have eA : (foA n).val = n * 6277101735386680763835789423207666416102355444464034512896 := by
    unfold foA shlW
    rw [if_neg (by decide), if_neg (by decide), W4.val_of, e192, nW1_val]
    omega
  have hdiv := Int.mul_ediv_add_emod (n * 6277101735386680763835789423207666416102355444464034512896) d
  have m0 := Int.emod_nonneg (n * 6277101735386680763835789423207666416102355444464034512896) hd
  have m1 := Int.emod_lt_of_pos (n * 6277101735386680763835789423207666416102355444464034512896) (show 0 < d by omega)
  have q0 : 0 ≤ n * 6277101735386680763835789423207666416102355444464034512896 / d := Int.ediv_nonneg (by omega) d0
  have q1 : n * 6277101735386680763835789423207666416102355444464034512896 / d ≤ n * 6277101735386680763835789423207666416102355444464034512896 := Int.ediv_le_self _ (by omega)
  have eQ : (foQ n d).val = n * 6277101735386680763835789423207666416102355444464034512896 / d := by
    unfold foQ
    rw [eA, nW1_val, W4.val_of]
    omega
  have eR : (foR n d).val = n * 6277101735386680763835789423207666416102355444464034512896 % d := by
    unfold foR
    rw [eA, nW1_val, W4.val_of]
    omega
  have eF : foI n d = n * 6277101735386680763835789423207666416102355444464034512896 / d * 72057594037927936 + n * 6277101735386680763835789423207666416102355444464034512896 % d * 72057594037927936 / d := by
    unfold foI
    generalize hq : n * 6277101735386680763835789423207666416102355444464034512896 / d = q at *
    generalize hr : n * 6277101735386680763835789423207666416102355444464034512896 % d = r at *
    have : n * 452312848583266388373324160190187140051835877600158453279131187530910662656 = q * 72057594037927936 * d + r * 72057594037927936 := by
      have e : n * 452312848583266388373324160190187140051835877600158453279131187530910662656 = n * 6277101735386680763835789423207666416102355444464034512896 * 72057594037927936 := by omega
      rw [e, ← hdiv, Int.add_mul, Int.mul_right_comm q, Int.mul_comm d q]
    rw [this, Int.add_comm, Int.add_mul_ediv_right _ _ hd, Int.add_comm]
  have f0 : 0 ≤ n * 6277101735386680763835789423207666416102355444464034512896 % d * 72057594037927936 / d := Int.ediv_nonneg (by omega) d0
  have f1 : n * 6277101735386680763835789423207666416102355444464034512896 % d * 72057594037927936 / d < 72057594037927936 := Int.ediv_lt_of_lt_mul (by omega) (by
    have := Int.mul_lt_mul_of_pos_right m1 (show (0 : Int) < 72057594037927936 by decide)
    rw [Int.mul_comm 72057594037927936]
    exact this)
  constructor
  · have g := lenI_gt (foQ n d) 200
    have p : (2 : Nat) ^ 200 = 1606938044258990275541962092341162602522202993782792835301376 := by rfl
    have e : (foQ n d).nat = (n * 6277101735386680763835789423207666416102355444464034512896 / d).toNat := by unfold W4.nat; rw [eQ]
    rw [p, e] at g
    rw [eF]
    generalize n * 6277101735386680763835789423207666416102355444464034512896 / d = q at *
    generalize n * 6277101735386680763835789423207666416102355444464034512896 % d * 72057594037927936 / d = f at *
    omega
  · intro hl
    have eS : (shlW (foR n d) 56).val = n * 6277101735386680763835789423207666416102355444464034512896 % d * 72057594037927936 := by
      unfold shlW
      rw [if_neg (by decide), if_neg (by decide), W4.val_of, e56, eR]
      omega
    have eL : (foL n d).val = n * 6277101735386680763835789423207666416102355444464034512896 % d * 72057594037927936 / d := by
      unfold foL
      rw [eS, nW1_val, W4.val_of]
      omega
    have eT : (shlW (foQ n d) 56).val = n * 6277101735386680763835789423207666416102355444464034512896 / d * 72057594037927936 := by
      unfold shlW
      rw [if_neg (by decide), if_neg (by decide), W4.val_of, e56, eQ]
      rw [eF] at hl
      generalize n * 6277101735386680763835789423207666416102355444464034512896 / d = q at *
      generalize n * 6277101735386680763835789423207666416102355444464034512896 % d * 72057594037927936 / d = f at *
      omega
    unfold foW
    rw [eT, eL, eF]
theorem nW1_ok {n : Int} (h : 0 ≤ n ∧ n < 18446744073709551616) : (nW1 n).ok := ⟨h, z64, z64, z64⟩
theorem of_zero {n d : Int} (h : uu n d) (hd : d = 0) (w : World) : Calls Tryz.prog 166 #[.int .u64 n, .int .u64 d] w fun e w' => e = .returned (.tuple #[vW zW, errF 5]) ∧ Tidy w w' := by
  have z : decide ((nW1 d).val = 0) = true := decide_eq_true (by rw [nW1_val]; exact hd)
  have a1 : (q2 (foA n) (nW1 d)).1 = (q2 (foA n) (nW1 d)).2 := decide_eq_true ⟨shl_ok1 _ _ (nW1_ok h.1), nW1_ok h.2⟩
  have a2 : (qk (nW1 n) 192).1 = (qk (nW1 n) 192).2 := decide_eq_true ⟨nW1_ok h.1, by decide, by decide⟩
  exact fits_calls (tabY_ok conFQ_ok) (fo_zero n d) (okPC z (okPC a1 (okP1 a2))) (by rfl) (by rfl) w
theorem of_long {n d : Int} (h : uu n d) (hd : d ≠ 0) (hl : 115792089237316195423570985008687907853269984665640564039457584007913129639936 ≤ foI n d) (w : World) : Calls Tryz.prog 166 #[.int .u64 n, .int .u64 d] w fun e w' => e = .returned (.tuple #[vW zW, errF 2]) ∧ Tidy w w' := by
  have z : decide ((nW1 d).val = 0) = false := decide_eq_false (by rw [nW1_val]; exact hd)
  have a1 : (q2 (foA n) (nW1 d)).1 = (q2 (foA n) (nW1 d)).2 := decide_eq_true ⟨shl_ok1 _ _ (nW1_ok h.1), nW1_ok h.2⟩
  have a2 : (qk (nW1 n) 192).1 = (qk (nW1 n) 192).2 := decide_eq_true ⟨nW1_ok h.1, by decide, by decide⟩
  have a3 : (oW (foQ n d)).1 = (oW (foQ n d)).2 := decide_eq_true (W4.ok_of _)
  have a4 : (lq1 n d true).1 = (lq1 n d true).2 := decide_eq_true ((fo_num h hd).1.2 hl)
  exact fits_calls (tabY_ok conFQ_ok) (fo_long n d) (okPC a4 (okPC a3 (okPC z (okPC a1 (okP1 a2))))) (by rfl) (by rfl) w
theorem of_in {n d : Int} (h : uu n d) (hd : d ≠ 0) (hl : ¬ 115792089237316195423570985008687907853269984665640564039457584007913129639936 ≤ foI n d) (w : World) : Calls Tryz.prog 166 #[.int .u64 n, .int .u64 d] w fun e w' => e = .returned (.tuple #[vW (W4.of (foI n d)), .nilIface]) ∧ Tidy w w' := by
  have z : decide ((nW1 d).val = 0) = false := decide_eq_false (by rw [nW1_val]; exact hd)
  have a1 : (q2 (foA n) (nW1 d)).1 = (q2 (foA n) (nW1 d)).2 := decide_eq_true ⟨shl_ok1 _ _ (nW1_ok h.1), nW1_ok h.2⟩
  have a2 : (qk (nW1 n) 192).1 = (qk (nW1 n) 192).2 := decide_eq_true ⟨nW1_ok h.1, by decide, by decide⟩
  have a3 : (oW (foQ n d)).1 = (oW (foQ n d)).2 := decide_eq_true (W4.ok_of _)
  have a4 : (lq1 n d false).1 = (lq1 n d false).2 := decide_eq_false fun hh => hl ((fo_num h hd).1.1 hh)
  have a5 : (qk (foR n d) 56).1 = (qk (foR n d) 56).2 := decide_eq_true ⟨W4.ok_of _, by decide, by decide⟩
  have a6 : (q2 (shlW (foR n d) 56) (nW1 d)).1 = (q2 (shlW (foR n d) 56) (nW1 d)).2 := decide_eq_true ⟨shl_ok1 _ _ (W4.ok_of _), nW1_ok h.2⟩
  have a7 : (qk (foQ n d) 56).1 = (qk (foQ n d) 56).2 := decide_eq_true ⟨W4.ok_of _, by decide, by decide⟩
  have a8 : (q2 (shlW (foQ n d) 56) (foL n d)).1 = (q2 (shlW (foQ n d) 56) (foL n d)).2 := decide_eq_true ⟨shl_ok1 _ _ (W4.ok_of _), W4.ok_of _⟩
  rw [← (fo_num h hd).2 hl]
  exact fits_calls (tabY_ok conFQ_ok) (fo_in n d) (okPC a8 (okPC a7 (okPC z (okPC a6 (okPC a5 (okPC a4 (okPC a3 (okPC z (okPC a1 (okP1 a2)))))))))) (by rfl) (by rfl) w
/-- told ahead: by nothing; too great; the quotient -/
def gFOf : Ans := fun vals s =>
  match vals, s with
  | [.int .u64 n, .int .u64 d], .inr (.inr (.inr (.inl z))) :: s' =>
    match z, s' with
    | true, _ => some (.tuple #[vW zW, errF 5], s', [(decide (d = 0), true), (decide (uu n d), true)])
    | false, .inr (.inr (.inr (.inl true))) :: s2 => some (.tuple #[vW zW, errF 2], s2, [(decide (115792089237316195423570985008687907853269984665640564039457584007913129639936 ≤ foI n d), true), (decide (d = 0), false), (decide (uu n d), true)])
    | false, .inr (.inr (.inr (.inl false))) :: s2 => some (.tuple #[vW (W4.of (foI n d)), .nilIface], s2, [(decide (115792089237316195423570985008687907853269984665640564039457584007913129639936 ≤ foI n d), false), (decide (d = 0), false), (decide (uu n d), true)])
    | _, _ => none
  | _, _ => none
theorem gFOf_ok : AnsOk 166 gFOf := by
  intro vals s v s' lg h hl w
  unfold gFOf at h
  split at h
  · rename_i n d z s1
    split at h
    · cases h
      exact of_zero (of_decide_eq_true (hl _ (List.mem_cons_of_mem _ (List.mem_singleton.2 rfl)))) (of_decide_eq_true (hl _ List.mem_cons_self)) w
    · cases h
      exact of_long (of_decide_eq_true (hl _ (List.mem_cons_of_mem _ (List.mem_cons_of_mem _ (List.mem_singleton.2 rfl))))) (of_decide_eq_false (hl _ (List.mem_cons_of_mem _ List.mem_cons_self))) (of_decide_eq_true (hl _ List.mem_cons_self)) w
    · cases h
      exact of_in (of_decide_eq_true (hl _ (List.mem_cons_of_mem _ (List.mem_cons_of_mem _ (List.mem_singleton.2 rfl))))) (of_decide_eq_false (hl _ (List.mem_cons_of_mem _ List.mem_cons_self))) (of_decide_eq_false (hl _ List.mem_cons_self)) w
    · cases h
  · cases h
/-- the product; told ahead whether it is too great -/
def gFMd : Ans := fun vals s =>
  match vals, s with
  | [x, y], .inr (.inr (.inr (.inl d))) :: s' =>
    match w4 x, w4 y with
    | some a, some b => some (.tuple #[vW (W4.of (fmI a b)), .bool d], s', [(decide (115792089237316195423570985008687907853269984665640564039457584007913129639936 ≤ fmI a b), d), q2 a b])
    | _, _ => none
  | _, _ => none
theorem gFMd_ok : AnsOk 167 gFMd := by
  intro vals s v s' lg h hl w
  unfold gFMd at h
  split at h
  · split at h
    · rename_i a b ha hb
      cases h
      have h1 := hl _ List.mem_cons_self
      have h2 := of_decide_eq_true (hl _ (List.mem_cons_of_mem _ (List.mem_singleton.2 rfl)))
      simp only at h1
      rw [w4_spec ha, w4_spec hb, ← h1]
      exact fm_calls a b h2.1 h2.2 w
    · cases h
  · cases h
end Go.Proofs.YtjkgnbdeklploaaGreatDoor
namespace Go.Tu
open Go.Fx
/-- half a turn, cut -/
def piP : Nat := 0x03243f6a8885a308d313198a2e03707344a4093822299f31d0082efa98ec4e6c
/-- the angle of k parts of n -/
def angN (k n : Nat) : Nat := 2 * k * uP / n * piP / uP
/-- the lower bound of the cosine of k parts of n, a quarter of a turn at most -/
def lowC (k n : Nat) : Nat := if 8 * k ≤ n then lo32 (cS uP 29 (angN k n)) else lo32 (sS uP 29 (angN (n / 4 - k) n))
def foldK (k n : Nat) : Nat := if n / 2 < k then n - k else k
def foldS (k n : Nat) : Bool := decide (n / 4 < foldK k n)
def foldQ (k n : Nat) : Nat := if n / 4 < foldK k n then n / 2 - foldK k n else foldK k n
def rnd16 (s : Bool) (L : Nat) : Int := (if s = true then 9223372036854775808 else 0) + Go.Rn.rnP 0 s (2 * L) (-249)
/-- the pattern of the cosine of k parts of n: n a multiple of 4, k below n -/
def patC (k n : Nat) : Int := rnd16 (foldS k n) (lowC (foldQ k n) n)
/-- of any k -/
def cosT (k n : Nat) : Int := patC (4 * (k % n)) (4 * n)
def sinT (k n : Nat) : Int := patC ((4 * (k % n) + 3 * n) % (4 * n)) (4 * n)
/-! ### the same parts told in other numbers -/
/-! ### the other side of the circle -/
/-- half a turn more: where the cosine is 0 it is 0 again, else with the other sign -/
theorem fold_half {n k : Nat} (h : n % 4 = 0) (hk : k < n) : foldQ ((k + n / 2) % n) n = foldQ k n ∧ (foldQ k n = n / 4 ∨ foldS ((k + n / 2) % n) n = !foldS k n) ∧ foldQ k n ≤ n / 4 ∧ (foldQ k n = n / 4 → foldS k n = false ∧ foldS ((k + n / 2) % n) n = false) := by
  obtain ⟨q, rfl⟩ : ∃ q, n = 4 * q := ⟨n / 4, by omega⟩
  have e1 : 4 * q / 4 = q := by omega
  have e2 : 4 * q / 2 = 2 * q := by omega
  have key : ∀ j, j < 4 * q → (foldQ j (4 * q) = if j ≤ q then j else if j < 2 * q then 2 * q - j else if j < 3 * q then j - 2 * q else 4 * q - j) ∧ (foldS j (4 * q) = decide (q < j ∧ j < 3 * q)) := by
    intro j hj
    unfold foldQ foldS foldK
    rw [e1, e2]
    by_cases g : 2 * q < j
    · rw [if_pos g]
      refine ⟨by (repeat' split) <;> omega, decide_eq_decide.2 ⟨fun _ => by omega, fun _ => by omega⟩⟩
    · rw [if_neg g]
      refine ⟨by (repeat' split) <;> omega, decide_eq_decide.2 ⟨fun _ => by omega, fun _ => by omega⟩⟩
  have hm : (k + 2 * q) % (4 * q) < 4 * q := Nat.mod_lt _ (by omega)
  have hv : (k + 2 * q) % (4 * q) = if k < 2 * q then k + 2 * q else k - 2 * q := by
    split
    · exact Nat.mod_eq_of_lt (by omega)
    · rw [show k + 2 * q = (k - 2 * q) + 4 * q by omega, Nat.add_mod_right, Nat.mod_eq_of_lt (by omega)]
  rw [e1, e2]
  obtain ⟨a1, a2⟩ := key k hk
  obtain ⟨b1, b2⟩ := key _ hm
  rw [hv] at b1 b2
  rw [hv, a1, a2, b1, b2]
  clear a1 a2 b1 b2 key hv hm e1 e2 h
  by_cases g1 : k < 2 * q
  · rw [if_pos g1]
    by_cases g2 : k < q
    · rw [if_neg (show ¬ k + 2 * q ≤ q by omega), if_neg (show ¬ k + 2 * q < 2 * q by omega), if_pos (show k + 2 * q < 3 * q by omega), if_pos (show k ≤ q by omega), decide_eq_true (show q < k + 2 * q ∧ k + 2 * q < 3 * q by omega), decide_eq_false (show ¬ (q < k ∧ k < 3 * q) by omega)]
      exact ⟨by omega, .inr rfl, by omega, by omega⟩
    · rw [if_neg (show ¬ k + 2 * q ≤ q by omega), if_neg (show ¬ k + 2 * q < 2 * q by omega), if_neg (show ¬ k + 2 * q < 3 * q by omega), decide_eq_false (show ¬ (q < k + 2 * q ∧ k + 2 * q < 3 * q) by omega)]
      by_cases g3 : k = q
      · rw [if_pos (show k ≤ q by omega), decide_eq_false (show ¬ (q < k ∧ k < 3 * q) by omega)]
        exact ⟨by omega, .inl g3, by omega, fun _ => ⟨rfl, rfl⟩⟩
      · rw [if_neg (show ¬ k ≤ q by omega), if_pos g1, decide_eq_true (show q < k ∧ k < 3 * q by omega)]
        exact ⟨by omega, .inr rfl, by omega, by omega⟩
  · rw [if_neg g1, if_neg (show ¬ k ≤ q by omega), if_neg g1]
    by_cases g2 : k < 3 * q
    · rw [if_pos g2, if_pos (show k - 2 * q ≤ q by omega), decide_eq_false (show ¬ (q < k - 2 * q ∧ k - 2 * q < 3 * q) by omega), decide_eq_true (show q < k ∧ k < 3 * q by omega)]
      exact ⟨rfl, .inr rfl, by omega, by omega⟩
    · rw [if_neg g2, decide_eq_false (show ¬ (q < k ∧ k < 3 * q) by omega)]
      by_cases g3 : k = 3 * q
      · rw [if_pos (show k - 2 * q ≤ q by omega), decide_eq_false (show ¬ (q < k - 2 * q ∧ k - 2 * q < 3 * q) by omega)]
        exact ⟨by omega, .inl (by omega), by omega, fun _ => ⟨rfl, rfl⟩⟩
      · rw [if_neg (show ¬ k - 2 * q ≤ q by omega), if_pos (show k - 2 * q < 2 * q by omega), decide_eq_true (show q < k - 2 * q ∧ k - 2 * q < 3 * q by omega)]
        exact ⟨by omega, .inr rfl, by omega, by omega⟩
/-! ### how great -/
theorem piP_bd : 3 * uP ≤ piP ∧ piP ≤ 4 * uP := by decide +kernel
/-- an eighth of a turn at most is below 1 -/
theorem angN_le {k n : Nat} (h : 8 * k ≤ n) : angN k n ≤ uP := by
  have hq : 2 * k * uP / n ≤ uP / 4 := by
    rcases Nat.eq_zero_or_pos n with h0 | h0
    · rw [h0, Nat.div_zero]
      exact Nat.zero_le _
    · refine Nat.div_le_of_le_mul ?_
      have e : uP = 4 * (uP / 4) := by decide +kernel
      have := Nat.mul_le_mul_right (uP / 4) h
      rw [e]
      generalize uP / 4 = u at *
      have e1 : 2 * k * (4 * u) = 8 * k * u := by rw [← Nat.mul_assoc, Nat.mul_comm (2 * k) 4, ← Nat.mul_assoc]
      rw [e1]
      have e2 : 4 * u / 4 = u := by omega
      rw [e2]
      exact this
  unfold angN
  refine Nat.div_le_of_le_mul ?_
  refine Nat.le_trans (Nat.mul_le_mul hq piP_bd.2) ?_
  decide +kernel
theorem lowC_le {k n : Nat} (hk : k ≤ n / 4) : lowC k n ≤ uP := by
  unfold lowC
  by_cases g : 8 * k ≤ n
  · rw [if_pos g]
    have := cS_bd uP_pos (angN_le g) 29
    unfold lo32
    omega
  · rw [if_neg g]
    have h := angN_le (show 8 * (n / 4 - k) ≤ n by omega)
    have := sS_bd uP_pos h 29
    unfold lo32
    omega
/-! ### what is the same of a circle -/
end Go.Tu
