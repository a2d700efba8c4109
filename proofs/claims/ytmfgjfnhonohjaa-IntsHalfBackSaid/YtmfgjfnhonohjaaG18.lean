/-
  ints.sizeOf, ints.isAbove, as calls in every world.
-/
import Derived.Test.YtmfgjfnhonohjaaG17
import Derived.Test.YtmfgjfnhonohjaaG16
namespace Go.Proofs.Ytmfgjfnhonohjaa
open Go.KRun Go.Wd Go.Pt Go.Rn
set_option maxRecDepth 100000

def wOne (s : Int) : W4 := ⟨s, 0, 0, 0⟩
theorem wOne_val (s : Int) : (wOne s).val = s := by unfold wOne W4.val; simp only [Int.mul_zero, Int.add_zero]
theorem sz_e (n : Bool) (c e s : Int) : Fits (reckon (tabOf Try.prog extY conI0 true) 300 40 [vP n c e s] [cmp true]) (vW (shlW (wOne 1) 64)) [(decide ((wOne 1).ok ∧ -9223372036854775808 ≤ (64 : Int) ∧ (64 : Int) ≤ 9223372036854775807), true), (c == 3, true)] := ⟨by kernel_rfl, by kernel_rfl, by kernel_rfl, by kernel_rfl⟩
theorem sz_u (n : Bool) (c e s : Int) : Fits (reckon (tabOf Try.prog extY conI0 true) 300 40 [vP n c e s] [cmp false, cmp true]) (vW (shlW (wOne s) (if 64 < e then 64 else e))) [(decide ((wOne s).ok ∧ (-9223372036854775808 ≤ if 64 < e then 64 else e) ∧ (if 64 < e then 64 else e) ≤ 9223372036854775807), true), (decide (e > 0), true), (c == 3, false)] := ⟨by kernel_rfl, by kernel_rfl, by kernel_rfl, by kernel_rfl⟩
def lsd (e s : Int) : Bool × Bool := (decide ((wOne s).ok ∧ -9223372036854775808 ≤ IntKind.i64.wrap (0 - e) ∧ IntKind.i64.wrap (0 - e) ≤ 9223372036854775807), true)
theorem sz_d (n : Bool) (c e s : Int) : Fits (reckon (tabOf Try.prog extY conI0 true) 300 40 [vP n c e s] [cmp false, cmp false]) (vW (shrW (wOne s) (IntKind.i64.wrap (0 - e)))) [lsd e s, lsd e s, lsd e s, (decide (e > 0), false), (c == 3, false)] := ⟨by kernel_rfl, by kernel_rfl, by kernel_rfl, by kernel_rfl⟩
def okSz (e s : Int) : Bool := decide (0 ≤ s ∧ s < 9007199254740992 ∧ -1074 ≤ e ∧ e ≤ 972)
theorem sz_calls (n : Bool) (c e s : Int) (h : okSz e s = true) (w : World) : Calls Try.prog 40 #[vP n c e s] w fun r w' => r = .returned (vW (ofN (szC c e s))) ∧ Tidy w w' := by
  have T := tabY_ok conI0_ok
  have hv : ([vP n c e s].all (lt 0)) = true := rfl
  obtain ⟨s0, s1, e0, e1⟩ := of_decide_eq_true h
  have ok1 : (wOne s).ok := (w1_nat s0 (by omega)).1
  unfold szC
  by_cases h3 : c = 3
  · rw [if_pos h3]
    have hf := sz_e n c e s
    rw [show shlW (wOne 1) 64 = ofN 18446744073709551616 from rfl] at hf
    exact fits_calls T hf (okCons (by decide) (okL1 (beq_t h3))) hv (by rfl) w
  rw [if_neg h3]
  by_cases h0 : 0 < e
  · rw [if_pos h0]
    have ek : (if 64 < e then 64 else e) = min e 64 := by split <;> omega
    have hf := sz_u n c e s
    have ew : shlW (wOne s) (if 64 < e then 64 else e) = ofN (s.toNat * 2 ^ (min e 64).toNat) := by
      rw [ek]
      unfold shlW ofN
      rw [if_neg (by omega), if_neg (by omega), wOne_val]
      congr 1
      rw [Int.natCast_mul, Int.natCast_pow, Int.toNat_of_nonneg s0]
      rfl
    rw [ew] at hf
    exact fits_calls T hf (okCons (decide_eq_true ⟨ok1, by rw [ek]; omega, by rw [ek]; omega⟩) (okCons (decide_eq_true h0) (okL1 (beq_f h3)))) hv (by rfl) w
  · rw [if_neg h0]
    have ek : IntKind.i64.wrap (0 - e) = 0 - e := wrapI' ⟨by omega, by omega⟩
    have kl : (lsd e s).1 = (lsd e s).2 := decide_eq_true ⟨ok1, by rw [ek]; omega, by rw [ek]; omega⟩
    have hf := sz_d n c e s
    have ew : shrW (wOne s) (IntKind.i64.wrap (0 - e)) = ofN (s.toNat / 2 ^ (0 - e).toNat) := by
      rw [ek]
      unfold shrW
      by_cases h1 : 0 - e < 1
      · rw [if_pos h1, show (0 - e).toNat = 0 by omega, Nat.pow_zero, Nat.div_one]
        exact of_nat _ ok1 (by rw [wOne_val]; omega)
      · rw [if_neg h1]
        by_cases h2 : 256 ≤ 0 - e
        · rw [if_pos h2]
          have : s.toNat / 2 ^ (0 - e).toNat = 0 := small_div (Nat.lt_of_lt_of_le (show s.toNat < 9007199254740992 by omega) (by decide)) (by omega)
          rw [this]
          rfl
        · rw [if_neg h2, wOne_val]
          unfold ofN
          congr 1
          rw [Int.natCast_ediv, Int.natCast_pow, Int.toNat_of_nonneg s0]
          rfl
    rw [ew] at hf
    exact fits_calls T hf (okCons kl (okCons kl (okCons kl (okCons (decide_eq_false (by omega)) (okL1 (beq_f h3)))))) hv (by rfl) w
def gSz : Ans := fun vals s =>
  match vals with
  | [.agg cs] =>
    match cs.toList with
    | [.bool _, .int .i64 c, .int .i64 e, .int .u64 x] => some (vW (ofN (szC c e x)), s, [(okSz e x, true)])
    | _ => none
  | _ => none
theorem gSz_ok : AnsOk 40 gSz := by
  intro vals s v s' lg h hl w
  unfold gSz at h
  split at h
  · rename_i cs
    split at h
    · rename_i n c e x hcs
      have ecs : cs = #[.bool n, .int .i64 c, .int .i64 e, .int .u64 x] := by
        have := congrArg List.toArray hcs
        simpa using this
      cases h
      rw [ecs]
      exact sz_calls n c e x (hl _ (List.mem_singleton.2 rfl)) w
    · cases h
  · cases h
theorem ab_t (x : W4) (b : Int) (d : Bool) : Fits (reckon (tabOf Try.prog extY conI0 true) 300 41 [vW x, .int .u64 b] [cmp d]) (.bool d) [(decide (cmpI x (wOne b) > 0), d), (decide (x.ok ∧ (wOne b).ok), true)] := ⟨by kernel_rfl, by kernel_rfl, by kernel_rfl, by kernel_rfl⟩
def gAb : Ans := fun vals s =>
  match vals with
  | [y, .int .u64 b] =>
    match w4 y, s with
    | some x, .inr (.inr (.inr (.inl d))) :: s' => some (.bool d, s', [(decide (b < x.val), d), (decide (x.ok ∧ U b), true)])
    | _, _ => none
  | _ => none
theorem gAb_ok : AnsOk 41 gAb := by
  intro vals s v s' lg h hl w
  unfold gAb at h
  split at h
  · rename_i y b
    split at h
    · rename_i x d s2 hx
      cases h
      have l1 := hl _ List.mem_cons_self
      have l2 := of_decide_eq_true (hl _ (List.mem_cons_of_mem _ (List.mem_singleton.2 rfl)))
      rw [w4_spec hx]
      have ok1 : (wOne b).ok := (w1_nat l2.2.1 l2.2.2).1
      have e : decide (cmpI x (wOne b) > 0) = decide (b < x.val) := by
        have : cmpI x (wOne b) > 0 ↔ b < x.val := by
          unfold cmpI
          rw [wOne_val]
          split
          · omega
          · split <;> omega
        exact decide_eq_decide.2 this
      exact fits_calls (tabY_ok conI0_ok) (ab_t x b d) (okCons (e.trans l1) (okL1 (decide_eq_true ⟨l2.1, ok1⟩))) (by rfl) (by rfl) w
    · cases h
  · cases h
def conI1 : Con := alt 40 gSz (alt 41 gAb conI0)
theorem conI1_ok : ConOk conI1 := alt_ok Try.func40 rfl gSz_ok (alt_ok Try.func41 rfl gAb_ok conI0_ok)
end Go.Proofs.Ytmfgjfnhonohjaa

/-
  What whole.Round answers of a finite pattern, in plain terms.
-/
namespace Go.Proofs.Ytmfgjfnhonohjaa
open Go.KRun Go.Wd Go.Pt Go.Rn
set_option maxRecDepth 100000

theorem fin_mag {p : Int} (h : cl p ≤ 2) : mag p < 9218868437227405312 := (mag_cl p).2.2.1 h
theorem wh_fin (m : Int) {a : Int} (ha : cl a ≤ 2) : woP m a = sS (sgn a) (whP m a) ∧ 0 ≤ whP m a ∧ whP m a < 9218868437227405312 ∧ woF a false = 0 := by
  have h1 : ¬ 3 < cl a := by omega
  have h2 : ¬ cl a = 3 := by omega
  have hm := fin_mag ha
  have ml := mag_lt (p := a)
  obtain ⟨j, hj⟩ : ∃ j : Nat, (j : Int) = 1074 := ⟨1074, rfl⟩
  unfold woP woF
  rw [if_neg h1, if_neg h2, if_neg h1, if_neg h2, if_neg (by simp)]
  by_cases h0 : 0 ≤ xp a
  · have e : whP m a = mag a := by unfold whP; rw [if_pos h0]
    rw [e]
    exact ⟨rfl, by omega, by omega, rfl⟩
  · obtain ⟨_, q1, q2⟩ := wh_num (m := m) (a := a) hj (by omega)
    exact ⟨rfl, q1, by omega, rfl⟩
end Go.Proofs.Ytmfgjfnhonohjaa

/-
  ints.To, ints.ToPlain, ints.ToHalf and ints.ToPlainHalf, as calls in every world.
-/
namespace Go.Proofs.Ytmfgjfnhonohjaa
open Go.KRun Go.Wd Go.Pt Go.Rn
set_option maxRecDepth 100000

/-- the size that is held against the bounds -/
def szW (m p : Int) : W4 := ofN (szC (cl (woP m p)) (xp (woP m p)) (sg (woP m p)))
def szA (m p : Int) : Int := (szW m p).a
theorem szW_val (m p : Int) : (szW m p).val = (szC (cl (woP m p)) (xp (woP m p)) (sg (woP m p)) : Nat) := ofN_val (Nat.lt_of_lt_of_le (szC_lt (sg_lt _).2) (by decide))
theorem szW_a {m p : Int} (h : szC (cl (woP m p)) (xp (woP m p)) (sg (woP m p)) < 18446744073709551616) : szA m p = (szC (cl (woP m p)) (xp (woP m p)) (sg (woP m p)) : Nat) := by
  unfold szA szW ofN W4.of
  dsimp only
  omega
theorem to_facts {p m : Int} (hp : U p) (h3 : ¬ 3 < cl p) : U (woP m p) ∧ sgn (woP m p) = sgn p ∧ okSz (xp (woP m p)) (sg (woP m p)) = true ∧
    ∀ B : Nat, B < 18446744073709551616 → decide ((B : Int) < (szW m p).val) = decide (cl p = 3 ∨ B < Go.Rn.whQ m p) ∧ (¬ (cl p = 3 ∨ B < Go.Rn.whQ m p) → szA m p = (Go.Rn.whQ m p : Nat)) := by
  have ko : okSz (xp (woP m p)) (sg (woP m p)) = true := by
    have h1 := sg_lt (woP m p)
    have h2 := xp_bd (woP m p)
    exact decide_eq_true ⟨h1.1, h1.2, h2.1, h2.2⟩
  by_cases c3 : cl p = 3
  · have e : woP m p = p := by unfold woP; rw [if_neg h3, if_pos c3]
    refine ⟨by rw [e]; exact hp, by rw [e], ko, fun B hB => ⟨?_, fun h => absurd (.inl c3) h⟩⟩
    have : szC (cl (woP m p)) (xp (woP m p)) (sg (woP m p)) = 18446744073709551616 := by unfold szC; rw [e, if_pos c3]
    rw [szW_val, this, decide_eq_true (show cl p = 3 ∨ B < Go.Rn.whQ m p from .inl c3)]
    exact decide_eq_true (by omega)
  · have c2 : cl p ≤ 2 := by omega
    obtain ⟨e, r0, r1, _⟩ := wh_fin m c2
    obtain ⟨g1, g2, g3, _⟩ := sS_mag (n := sgn p) r0 (show whP m p < 9223372036854775808 by omega)
    rw [← e] at g1 g2 g3
    have cq : cl (woP m p) ≤ 2 := (mag_cl (woP m p)).2.2.2 (by omega)
    have sz := sz_round g1 cq (fin_ex cq)
    refine ⟨g3, g2, ko, fun B hB => ⟨?_, fun h => ?_⟩⟩
    · rw [szW_val]
      refine decide_eq_decide.2 ?_
      omega
    · have : szC (cl (woP m p)) (xp (woP m p)) (sg (woP m p)) = Go.Rn.whQ m p := by omega
      rw [szW_a (by omega), this]
theorem woF_fin {p : Int} (t : Bool) (h3 : ¬ 3 < cl p) (c3 : ¬ cl p = 3) : woF p t = if t = true ∧ Go.Rn.whL p = true then 16 else 0 := by
  unfold woF
  rw [if_neg h3, if_neg c3]
theorem ng_i64 {Q : Nat} (h : Q ≤ 9223372036854775808) : IntKind.i64.wrap (0 - IntKind.i64.wrap (Q : Int)) = -(Q : Int) := by
  simp only [IntKind.wrap, IntKind.bits, IntKind.signed]
  simp
  omega
theorem ps_i64 {Q : Nat} (h : Q ≤ 9223372036854775807) : IntKind.i64.wrap (Q : Int) = (Q : Int) := by
  simp only [IntKind.wrap, IntKind.bits, IntKind.signed]
  simp
  omega
theorem ng_u64 {Q : Nat} (h : Q ≤ 0) : IntKind.u64.wrap (0 - (Q : Int)) = -(Q : Int) := by
  simp only [IntKind.wrap, IntKind.bits, IntKind.signed]
  simp
  omega
theorem ng_i32 {Q : Nat} (h : Q ≤ 2147483648) : IntKind.i32.wrap (0 - IntKind.i32.wrap (Q : Int)) = -(Q : Int) := by
  simp only [IntKind.wrap, IntKind.bits, IntKind.signed]
  simp
  omega
theorem ps_i32 {Q : Nat} (h : Q ≤ 2147483647) : IntKind.i32.wrap (Q : Int) = (Q : Int) := by
  simp only [IntKind.wrap, IntKind.bits, IntKind.signed]
  simp
  omega
theorem ng_u32 {Q : Nat} (h : Q ≤ 0) : IntKind.u32.wrap (0 - IntKind.u32.wrap (Q : Int)) = -(Q : Int) := by
  simp only [IntKind.wrap, IntKind.bits, IntKind.signed]
  simp
  omega
theorem ps_u32 {Q : Nat} (h : Q ≤ 4294967295) : IntKind.u32.wrap (Q : Int) = (Q : Int) := by
  simp only [IntKind.wrap, IntKind.bits, IntKind.signed]
  simp
  omega
theorem ti_n (p m : Int) (t : Bool) : Fits (reckon (tabOf Try.prog extY conI1 true) 300 12 [.int .u64 p, .int .i64 m, .bool t] [cmp true]) (.tuple #[.int .i64 0, .int .u8 1]) [(decide (cl p > 3), true), lU p] := ⟨by kernel_rfl, by kernel_rfl, by kernel_rfl, by kernel_rfl⟩
theorem ti_ma (p m : Int) (t : Bool) : Fits (reckon (tabOf Try.prog extY conI1 true) 300 12 [.int .u64 p, .int .i64 m, .bool t] [cmp false, cmp true, cmp true]) (.tuple #[.int .i64 (-9223372036854775808), .int .u8 1]) [(decide ((9223372036854775808 : Int) < (szW m p).val), true), (decide ((szW m p).ok ∧ U 9223372036854775808), true), (okSz (xp (woP m p)) (sg (woP m p)), true), (sgn (woP m p), true), lU (woP m p), lU p, (decide (cl p > 3), false), lU p] := ⟨by kernel_rfl, by kernel_rfl, by kernel_rfl, by kernel_rfl⟩
theorem ti_mb (p m : Int) (t : Bool) : Fits (reckon (tabOf Try.prog extY conI1 true) 300 12 [.int .u64 p, .int .i64 m, .bool t] [cmp false, cmp true, cmp false]) (.tuple #[.int .i64 (IntKind.i64.wrap (0 - (IntKind.i64.wrap (szA m p)))), .int .u8 (woF p t)]) [(decide ((9223372036854775808 : Int) < (szW m p).val), false), (decide ((szW m p).ok ∧ U 9223372036854775808), true), (okSz (xp (woP m p)) (sg (woP m p)), true), (sgn (woP m p), true), lU (woP m p), lU p, (decide (cl p > 3), false), lU p] := ⟨by kernel_rfl, by kernel_rfl, by kernel_rfl, by kernel_rfl⟩
theorem ti_pa (p m : Int) (t : Bool) : Fits (reckon (tabOf Try.prog extY conI1 true) 300 12 [.int .u64 p, .int .i64 m, .bool t] [cmp false, cmp false, cmp true]) (.tuple #[.int .i64 9223372036854775807, .int .u8 1]) [(decide ((9223372036854775807 : Int) < (szW m p).val), true), (decide ((szW m p).ok ∧ U 9223372036854775807), true), (okSz (xp (woP m p)) (sg (woP m p)), true), (sgn (woP m p), false), lU (woP m p), lU p, (decide (cl p > 3), false), lU p] := ⟨by kernel_rfl, by kernel_rfl, by kernel_rfl, by kernel_rfl⟩
theorem ti_pb (p m : Int) (t : Bool) : Fits (reckon (tabOf Try.prog extY conI1 true) 300 12 [.int .u64 p, .int .i64 m, .bool t] [cmp false, cmp false, cmp false]) (.tuple #[.int .i64 (IntKind.i64.wrap (szA m p)), .int .u8 (woF p t)]) [(decide ((9223372036854775807 : Int) < (szW m p).val), false), (decide ((szW m p).ok ∧ U 9223372036854775807), true), (okSz (xp (woP m p)) (sg (woP m p)), true), (sgn (woP m p), false), lU (woP m p), lU p, (decide (cl p > 3), false), lU p] := ⟨by kernel_rfl, by kernel_rfl, by kernel_rfl, by kernel_rfl⟩
theorem tp_n (p m : Int) (t : Bool) : Fits (reckon (tabOf Try.prog extY conI1 true) 300 14 [.int .u64 p, .int .i64 m, .bool t] [cmp true]) (.tuple #[.int .u64 0, .int .u8 1]) [(decide (cl p > 3), true), lU p] := ⟨by kernel_rfl, by kernel_rfl, by kernel_rfl, by kernel_rfl⟩
theorem tp_ma (p m : Int) (t : Bool) : Fits (reckon (tabOf Try.prog extY conI1 true) 300 14 [.int .u64 p, .int .i64 m, .bool t] [cmp false, cmp true, cmp true]) (.tuple #[.int .u64 (0), .int .u8 1]) [(decide ((0 : Int) < (szW m p).val), true), (decide ((szW m p).ok ∧ U 0), true), (okSz (xp (woP m p)) (sg (woP m p)), true), (sgn (woP m p), true), lU (woP m p), lU p, (decide (cl p > 3), false), lU p] := ⟨by kernel_rfl, by kernel_rfl, by kernel_rfl, by kernel_rfl⟩
theorem tp_mb (p m : Int) (t : Bool) : Fits (reckon (tabOf Try.prog extY conI1 true) 300 14 [.int .u64 p, .int .i64 m, .bool t] [cmp false, cmp true, cmp false]) (.tuple #[.int .u64 (IntKind.u64.wrap (0 - (szA m p))), .int .u8 (woF p t)]) [(decide ((0 : Int) < (szW m p).val), false), (decide ((szW m p).ok ∧ U 0), true), (okSz (xp (woP m p)) (sg (woP m p)), true), (sgn (woP m p), true), lU (woP m p), lU p, (decide (cl p > 3), false), lU p] := ⟨by kernel_rfl, by kernel_rfl, by kernel_rfl, by kernel_rfl⟩
theorem tp_pa (p m : Int) (t : Bool) : Fits (reckon (tabOf Try.prog extY conI1 true) 300 14 [.int .u64 p, .int .i64 m, .bool t] [cmp false, cmp false, cmp true]) (.tuple #[.int .u64 18446744073709551615, .int .u8 1]) [(decide ((18446744073709551615 : Int) < (szW m p).val), true), (decide ((szW m p).ok ∧ U 18446744073709551615), true), (okSz (xp (woP m p)) (sg (woP m p)), true), (sgn (woP m p), false), lU (woP m p), lU p, (decide (cl p > 3), false), lU p] := ⟨by kernel_rfl, by kernel_rfl, by kernel_rfl, by kernel_rfl⟩
theorem tp_pb (p m : Int) (t : Bool) : Fits (reckon (tabOf Try.prog extY conI1 true) 300 14 [.int .u64 p, .int .i64 m, .bool t] [cmp false, cmp false, cmp false]) (.tuple #[.int .u64 (szA m p), .int .u8 (woF p t)]) [(decide ((18446744073709551615 : Int) < (szW m p).val), false), (decide ((szW m p).ok ∧ U 18446744073709551615), true), (okSz (xp (woP m p)) (sg (woP m p)), true), (sgn (woP m p), false), lU (woP m p), lU p, (decide (cl p > 3), false), lU p] := ⟨by kernel_rfl, by kernel_rfl, by kernel_rfl, by kernel_rfl⟩
theorem th_n (p m : Int) (t : Bool) : Fits (reckon (tabOf Try.prog extY conI1 true) 300 16 [.int .u64 p, .int .i64 m, .bool t] [cmp true]) (.tuple #[.int .i32 0, .int .u8 1]) [(decide (cl p > 3), true), lU p] := ⟨by kernel_rfl, by kernel_rfl, by kernel_rfl, by kernel_rfl⟩
theorem th_ma (p m : Int) (t : Bool) : Fits (reckon (tabOf Try.prog extY conI1 true) 300 16 [.int .u64 p, .int .i64 m, .bool t] [cmp false, cmp true, cmp true]) (.tuple #[.int .i32 (-2147483648), .int .u8 1]) [(decide ((2147483648 : Int) < (szW m p).val), true), (decide ((szW m p).ok ∧ U 2147483648), true), (okSz (xp (woP m p)) (sg (woP m p)), true), (sgn (woP m p), true), lU (woP m p), lU p, (decide (cl p > 3), false), lU p] := ⟨by kernel_rfl, by kernel_rfl, by kernel_rfl, by kernel_rfl⟩
theorem th_mb (p m : Int) (t : Bool) : Fits (reckon (tabOf Try.prog extY conI1 true) 300 16 [.int .u64 p, .int .i64 m, .bool t] [cmp false, cmp true, cmp false]) (.tuple #[.int .i32 (IntKind.i32.wrap (0 - (IntKind.i32.wrap (szA m p)))), .int .u8 (woF p t)]) [(decide ((2147483648 : Int) < (szW m p).val), false), (decide ((szW m p).ok ∧ U 2147483648), true), (okSz (xp (woP m p)) (sg (woP m p)), true), (sgn (woP m p), true), lU (woP m p), lU p, (decide (cl p > 3), false), lU p] := ⟨by kernel_rfl, by kernel_rfl, by kernel_rfl, by kernel_rfl⟩
theorem th_pa (p m : Int) (t : Bool) : Fits (reckon (tabOf Try.prog extY conI1 true) 300 16 [.int .u64 p, .int .i64 m, .bool t] [cmp false, cmp false, cmp true]) (.tuple #[.int .i32 2147483647, .int .u8 1]) [(decide ((2147483647 : Int) < (szW m p).val), true), (decide ((szW m p).ok ∧ U 2147483647), true), (okSz (xp (woP m p)) (sg (woP m p)), true), (sgn (woP m p), false), lU (woP m p), lU p, (decide (cl p > 3), false), lU p] := ⟨by kernel_rfl, by kernel_rfl, by kernel_rfl, by kernel_rfl⟩
theorem th_pb (p m : Int) (t : Bool) : Fits (reckon (tabOf Try.prog extY conI1 true) 300 16 [.int .u64 p, .int .i64 m, .bool t] [cmp false, cmp false, cmp false]) (.tuple #[.int .i32 (IntKind.i32.wrap (szA m p)), .int .u8 (woF p t)]) [(decide ((2147483647 : Int) < (szW m p).val), false), (decide ((szW m p).ok ∧ U 2147483647), true), (okSz (xp (woP m p)) (sg (woP m p)), true), (sgn (woP m p), false), lU (woP m p), lU p, (decide (cl p > 3), false), lU p] := ⟨by kernel_rfl, by kernel_rfl, by kernel_rfl, by kernel_rfl⟩
theorem tq_n (p m : Int) (t : Bool) : Fits (reckon (tabOf Try.prog extY conI1 true) 300 17 [.int .u64 p, .int .i64 m, .bool t] [cmp true]) (.tuple #[.int .u32 0, .int .u8 1]) [(decide (cl p > 3), true), lU p] := ⟨by kernel_rfl, by kernel_rfl, by kernel_rfl, by kernel_rfl⟩
theorem tq_ma (p m : Int) (t : Bool) : Fits (reckon (tabOf Try.prog extY conI1 true) 300 17 [.int .u64 p, .int .i64 m, .bool t] [cmp false, cmp true, cmp true]) (.tuple #[.int .u32 (0), .int .u8 1]) [(decide ((0 : Int) < (szW m p).val), true), (decide ((szW m p).ok ∧ U 0), true), (okSz (xp (woP m p)) (sg (woP m p)), true), (sgn (woP m p), true), lU (woP m p), lU p, (decide (cl p > 3), false), lU p] := ⟨by kernel_rfl, by kernel_rfl, by kernel_rfl, by kernel_rfl⟩
theorem tq_mb (p m : Int) (t : Bool) : Fits (reckon (tabOf Try.prog extY conI1 true) 300 17 [.int .u64 p, .int .i64 m, .bool t] [cmp false, cmp true, cmp false]) (.tuple #[.int .u32 (IntKind.u32.wrap (0 - (IntKind.u32.wrap (szA m p)))), .int .u8 (woF p t)]) [(decide ((0 : Int) < (szW m p).val), false), (decide ((szW m p).ok ∧ U 0), true), (okSz (xp (woP m p)) (sg (woP m p)), true), (sgn (woP m p), true), lU (woP m p), lU p, (decide (cl p > 3), false), lU p] := ⟨by kernel_rfl, by kernel_rfl, by kernel_rfl, by kernel_rfl⟩
theorem tq_pa (p m : Int) (t : Bool) : Fits (reckon (tabOf Try.prog extY conI1 true) 300 17 [.int .u64 p, .int .i64 m, .bool t] [cmp false, cmp false, cmp true]) (.tuple #[.int .u32 4294967295, .int .u8 1]) [(decide ((4294967295 : Int) < (szW m p).val), true), (decide ((szW m p).ok ∧ U 4294967295), true), (okSz (xp (woP m p)) (sg (woP m p)), true), (sgn (woP m p), false), lU (woP m p), lU p, (decide (cl p > 3), false), lU p] := ⟨by kernel_rfl, by kernel_rfl, by kernel_rfl, by kernel_rfl⟩
theorem tq_pb (p m : Int) (t : Bool) : Fits (reckon (tabOf Try.prog extY conI1 true) 300 17 [.int .u64 p, .int .i64 m, .bool t] [cmp false, cmp false, cmp false]) (.tuple #[.int .u32 (IntKind.u32.wrap (szA m p)), .int .u8 (woF p t)]) [(decide ((4294967295 : Int) < (szW m p).val), false), (decide ((szW m p).ok ∧ U 4294967295), true), (okSz (xp (woP m p)) (sg (woP m p)), true), (sgn (woP m p), false), lU (woP m p), lU p, (decide (cl p > 3), false), lU p] := ⟨by kernel_rfl, by kernel_rfl, by kernel_rfl, by kernel_rfl⟩
theorem ti_calls (p m : Int) (t : Bool) (hp : U p) (w : World) : Calls Try.prog 12 #[.int .u64 p, .int .i64 m, .bool t] w fun r w' => r = .returned (.tuple #[.int .i64 (tiI 9223372036854775808 9223372036854775807 m p), .int .u8 (tiF 9223372036854775808 9223372036854775807 m p t)]) ∧ Tidy w w' := by
  have T := tabY_ok conI1_ok
  have hv : ([.int .u64 p, .int .i64 m, .bool t].all (lt 0)) = true := rfl
  have kp : decide (U p) = true := decide_eq_true hp
  unfold tiI tiF tiN tiS
  by_cases h3 : 3 < cl p
  · rw [if_pos h3, if_pos h3, decide_eq_false (by omega)]
    exact fits_calls T (ti_n p m t) (okCons (decide_eq_true h3) (okL1 kp)) hv (by rfl) w
  rw [if_neg h3, if_neg h3, decide_eq_true (show cl p ≤ 3 by omega)]
  obtain ⟨uq, sq, ko, fB⟩ := to_facts (m := m) hp h3
  have kq : decide (U (woP m p)) = true := decide_eq_true uq
  cases hs : sgn p with
  | true =>
    have hb : bdN 9223372036854775808 9223372036854775807 p = 9223372036854775808 := by unfold bdN; rw [if_pos hs]
    obtain ⟨hL, hQ⟩ := fB 9223372036854775808 (by omega)
    have hB : tiB 9223372036854775808 9223372036854775807 m p = decide (cl p = 3 ∨ 9223372036854775808 < Go.Rn.whQ m p) := by unfold tiB; rw [hb]
    rw [hB, hb]
    cases hd : decide (cl p = 3 ∨ 9223372036854775808 < Go.Rn.whQ m p) with
    | true => exact fits_calls T (ti_ma p m t) (okCons (hL.trans hd) (okCons (decide_eq_true ⟨ofN_ok _, by decide, by decide⟩) (okCons ko (okCons (sq.trans hs) (okCons kq (okCons kp (okCons (decide_eq_false (by omega)) (okL1 kp)))))))) hv (by rfl) w
    | false =>
      have hn := of_decide_eq_false hd
      have hf := ti_mb p m t
      rw [hQ hn, ng_i64 (by omega), woF_fin t h3 (by omega)] at hf
      exact fits_calls T hf (okCons (hL.trans hd) (okCons (decide_eq_true ⟨ofN_ok _, by decide, by decide⟩) (okCons ko (okCons (sq.trans hs) (okCons kq (okCons kp (okCons (decide_eq_false (by omega)) (okL1 kp)))))))) hv (by rfl) w
  | false =>
    have hb : bdN 9223372036854775808 9223372036854775807 p = 9223372036854775807 := by unfold bdN; rw [if_neg (by rw [hs]; decide)]
    obtain ⟨hM, hQ⟩ := fB 9223372036854775807 (by omega)
    have hB : tiB 9223372036854775808 9223372036854775807 m p = decide (cl p = 3 ∨ 9223372036854775807 < Go.Rn.whQ m p) := by unfold tiB; rw [hb]
    rw [hB, hb]
    cases hd : decide (cl p = 3 ∨ 9223372036854775807 < Go.Rn.whQ m p) with
    | true => exact fits_calls T (ti_pa p m t) (okCons (hM.trans hd) (okCons (decide_eq_true ⟨ofN_ok _, by decide, by decide⟩) (okCons ko (okCons (sq.trans hs) (okCons kq (okCons kp (okCons (decide_eq_false (by omega)) (okL1 kp)))))))) hv (by rfl) w
    | false =>
      have hn := of_decide_eq_false hd
      have hf := ti_pb p m t
      rw [hQ hn, ps_i64 (by omega), woF_fin t h3 (by omega)] at hf
      exact fits_calls T hf (okCons (hM.trans hd) (okCons (decide_eq_true ⟨ofN_ok _, by decide, by decide⟩) (okCons ko (okCons (sq.trans hs) (okCons kq (okCons kp (okCons (decide_eq_false (by omega)) (okL1 kp)))))))) hv (by rfl) w
theorem tp_calls (p m : Int) (t : Bool) (hp : U p) (w : World) : Calls Try.prog 14 #[.int .u64 p, .int .i64 m, .bool t] w fun r w' => r = .returned (.tuple #[.int .u64 (tiI 0 18446744073709551615 m p), .int .u8 (tiF 0 18446744073709551615 m p t)]) ∧ Tidy w w' := by
  have T := tabY_ok conI1_ok
  have hv : ([.int .u64 p, .int .i64 m, .bool t].all (lt 0)) = true := rfl
  have kp : decide (U p) = true := decide_eq_true hp
  unfold tiI tiF tiN tiS
  by_cases h3 : 3 < cl p
  · rw [if_pos h3, if_pos h3, decide_eq_false (by omega)]
    exact fits_calls T (tp_n p m t) (okCons (decide_eq_true h3) (okL1 kp)) hv (by rfl) w
  rw [if_neg h3, if_neg h3, decide_eq_true (show cl p ≤ 3 by omega)]
  obtain ⟨uq, sq, ko, fB⟩ := to_facts (m := m) hp h3
  have kq : decide (U (woP m p)) = true := decide_eq_true uq
  cases hs : sgn p with
  | true =>
    have hb : bdN 0 18446744073709551615 p = 0 := by unfold bdN; rw [if_pos hs]
    obtain ⟨hL, hQ⟩ := fB 0 (by omega)
    have hB : tiB 0 18446744073709551615 m p = decide (cl p = 3 ∨ 0 < Go.Rn.whQ m p) := by unfold tiB; rw [hb]
    rw [hB, hb]
    cases hd : decide (cl p = 3 ∨ 0 < Go.Rn.whQ m p) with
    | true => exact fits_calls T (tp_ma p m t) (okCons (hL.trans hd) (okCons (decide_eq_true ⟨ofN_ok _, by decide, by decide⟩) (okCons ko (okCons (sq.trans hs) (okCons kq (okCons kp (okCons (decide_eq_false (by omega)) (okL1 kp)))))))) hv (by rfl) w
    | false =>
      have hn := of_decide_eq_false hd
      have hf := tp_mb p m t
      rw [hQ hn, ng_u64 (by omega), woF_fin t h3 (by omega)] at hf
      exact fits_calls T hf (okCons (hL.trans hd) (okCons (decide_eq_true ⟨ofN_ok _, by decide, by decide⟩) (okCons ko (okCons (sq.trans hs) (okCons kq (okCons kp (okCons (decide_eq_false (by omega)) (okL1 kp)))))))) hv (by rfl) w
  | false =>
    have hb : bdN 0 18446744073709551615 p = 18446744073709551615 := by unfold bdN; rw [if_neg (by rw [hs]; decide)]
    obtain ⟨hM, hQ⟩ := fB 18446744073709551615 (by omega)
    have hB : tiB 0 18446744073709551615 m p = decide (cl p = 3 ∨ 18446744073709551615 < Go.Rn.whQ m p) := by unfold tiB; rw [hb]
    rw [hB, hb]
    cases hd : decide (cl p = 3 ∨ 18446744073709551615 < Go.Rn.whQ m p) with
    | true => exact fits_calls T (tp_pa p m t) (okCons (hM.trans hd) (okCons (decide_eq_true ⟨ofN_ok _, by decide, by decide⟩) (okCons ko (okCons (sq.trans hs) (okCons kq (okCons kp (okCons (decide_eq_false (by omega)) (okL1 kp)))))))) hv (by rfl) w
    | false =>
      have hn := of_decide_eq_false hd
      have hf := tp_pb p m t
      rw [hQ hn, woF_fin t h3 (by omega)] at hf
      exact fits_calls T hf (okCons (hM.trans hd) (okCons (decide_eq_true ⟨ofN_ok _, by decide, by decide⟩) (okCons ko (okCons (sq.trans hs) (okCons kq (okCons kp (okCons (decide_eq_false (by omega)) (okL1 kp)))))))) hv (by rfl) w
theorem th_calls (p m : Int) (t : Bool) (hp : U p) (w : World) : Calls Try.prog 16 #[.int .u64 p, .int .i64 m, .bool t] w fun r w' => r = .returned (.tuple #[.int .i32 (tiI 2147483648 2147483647 m p), .int .u8 (tiF 2147483648 2147483647 m p t)]) ∧ Tidy w w' := by
  have T := tabY_ok conI1_ok
  have hv : ([.int .u64 p, .int .i64 m, .bool t].all (lt 0)) = true := rfl
  have kp : decide (U p) = true := decide_eq_true hp
  unfold tiI tiF tiN tiS
  by_cases h3 : 3 < cl p
  · rw [if_pos h3, if_pos h3, decide_eq_false (by omega)]
    exact fits_calls T (th_n p m t) (okCons (decide_eq_true h3) (okL1 kp)) hv (by rfl) w
  rw [if_neg h3, if_neg h3, decide_eq_true (show cl p ≤ 3 by omega)]
  obtain ⟨uq, sq, ko, fB⟩ := to_facts (m := m) hp h3
  have kq : decide (U (woP m p)) = true := decide_eq_true uq
  cases hs : sgn p with
  | true =>
    have hb : bdN 2147483648 2147483647 p = 2147483648 := by unfold bdN; rw [if_pos hs]
    obtain ⟨hL, hQ⟩ := fB 2147483648 (by omega)
    have hB : tiB 2147483648 2147483647 m p = decide (cl p = 3 ∨ 2147483648 < Go.Rn.whQ m p) := by unfold tiB; rw [hb]
    rw [hB, hb]
    cases hd : decide (cl p = 3 ∨ 2147483648 < Go.Rn.whQ m p) with
    | true => exact fits_calls T (th_ma p m t) (okCons (hL.trans hd) (okCons (decide_eq_true ⟨ofN_ok _, by decide, by decide⟩) (okCons ko (okCons (sq.trans hs) (okCons kq (okCons kp (okCons (decide_eq_false (by omega)) (okL1 kp)))))))) hv (by rfl) w
    | false =>
      have hn := of_decide_eq_false hd
      have hf := th_mb p m t
      rw [hQ hn, ng_i32 (by omega), woF_fin t h3 (by omega)] at hf
      exact fits_calls T hf (okCons (hL.trans hd) (okCons (decide_eq_true ⟨ofN_ok _, by decide, by decide⟩) (okCons ko (okCons (sq.trans hs) (okCons kq (okCons kp (okCons (decide_eq_false (by omega)) (okL1 kp)))))))) hv (by rfl) w
  | false =>
    have hb : bdN 2147483648 2147483647 p = 2147483647 := by unfold bdN; rw [if_neg (by rw [hs]; decide)]
    obtain ⟨hM, hQ⟩ := fB 2147483647 (by omega)
    have hB : tiB 2147483648 2147483647 m p = decide (cl p = 3 ∨ 2147483647 < Go.Rn.whQ m p) := by unfold tiB; rw [hb]
    rw [hB, hb]
    cases hd : decide (cl p = 3 ∨ 2147483647 < Go.Rn.whQ m p) with
    | true => exact fits_calls T (th_pa p m t) (okCons (hM.trans hd) (okCons (decide_eq_true ⟨ofN_ok _, by decide, by decide⟩) (okCons ko (okCons (sq.trans hs) (okCons kq (okCons kp (okCons (decide_eq_false (by omega)) (okL1 kp)))))))) hv (by rfl) w
    | false =>
      have hn := of_decide_eq_false hd
      have hf := th_pb p m t
      rw [hQ hn, ps_i32 (by omega), woF_fin t h3 (by omega)] at hf
      exact fits_calls T hf (okCons (hM.trans hd) (okCons (decide_eq_true ⟨ofN_ok _, by decide, by decide⟩) (okCons ko (okCons (sq.trans hs) (okCons kq (okCons kp (okCons (decide_eq_false (by omega)) (okL1 kp)))))))) hv (by rfl) w
theorem tq_calls (p m : Int) (t : Bool) (hp : U p) (w : World) : Calls Try.prog 17 #[.int .u64 p, .int .i64 m, .bool t] w fun r w' => r = .returned (.tuple #[.int .u32 (tiI 0 4294967295 m p), .int .u8 (tiF 0 4294967295 m p t)]) ∧ Tidy w w' := by
  have T := tabY_ok conI1_ok
  have hv : ([.int .u64 p, .int .i64 m, .bool t].all (lt 0)) = true := rfl
  have kp : decide (U p) = true := decide_eq_true hp
  unfold tiI tiF tiN tiS
  by_cases h3 : 3 < cl p
  · rw [if_pos h3, if_pos h3, decide_eq_false (by omega)]
    exact fits_calls T (tq_n p m t) (okCons (decide_eq_true h3) (okL1 kp)) hv (by rfl) w
  rw [if_neg h3, if_neg h3, decide_eq_true (show cl p ≤ 3 by omega)]
  obtain ⟨uq, sq, ko, fB⟩ := to_facts (m := m) hp h3
  have kq : decide (U (woP m p)) = true := decide_eq_true uq
  cases hs : sgn p with
  | true =>
    have hb : bdN 0 4294967295 p = 0 := by unfold bdN; rw [if_pos hs]
    obtain ⟨hL, hQ⟩ := fB 0 (by omega)
    have hB : tiB 0 4294967295 m p = decide (cl p = 3 ∨ 0 < Go.Rn.whQ m p) := by unfold tiB; rw [hb]
    rw [hB, hb]
    cases hd : decide (cl p = 3 ∨ 0 < Go.Rn.whQ m p) with
    | true => exact fits_calls T (tq_ma p m t) (okCons (hL.trans hd) (okCons (decide_eq_true ⟨ofN_ok _, by decide, by decide⟩) (okCons ko (okCons (sq.trans hs) (okCons kq (okCons kp (okCons (decide_eq_false (by omega)) (okL1 kp)))))))) hv (by rfl) w
    | false =>
      have hn := of_decide_eq_false hd
      have hf := tq_mb p m t
      rw [hQ hn, ng_u32 (by omega), woF_fin t h3 (by omega)] at hf
      exact fits_calls T hf (okCons (hL.trans hd) (okCons (decide_eq_true ⟨ofN_ok _, by decide, by decide⟩) (okCons ko (okCons (sq.trans hs) (okCons kq (okCons kp (okCons (decide_eq_false (by omega)) (okL1 kp)))))))) hv (by rfl) w
  | false =>
    have hb : bdN 0 4294967295 p = 4294967295 := by unfold bdN; rw [if_neg (by rw [hs]; decide)]
    obtain ⟨hM, hQ⟩ := fB 4294967295 (by omega)
    have hB : tiB 0 4294967295 m p = decide (cl p = 3 ∨ 4294967295 < Go.Rn.whQ m p) := by unfold tiB; rw [hb]
    rw [hB, hb]
    cases hd : decide (cl p = 3 ∨ 4294967295 < Go.Rn.whQ m p) with
    | true => exact fits_calls T (tq_pa p m t) (okCons (hM.trans hd) (okCons (decide_eq_true ⟨ofN_ok _, by decide, by decide⟩) (okCons ko (okCons (sq.trans hs) (okCons kq (okCons kp (okCons (decide_eq_false (by omega)) (okL1 kp)))))))) hv (by rfl) w
    | false =>
      have hn := of_decide_eq_false hd
      have hf := tq_pb p m t
      rw [hQ hn, ps_u32 (by omega), woF_fin t h3 (by omega)] at hf
      exact fits_calls T hf (okCons (hM.trans hd) (okCons (decide_eq_true ⟨ofN_ok _, by decide, by decide⟩) (okCons ko (okCons (sq.trans hs) (okCons kq (okCons kp (okCons (decide_eq_false (by omega)) (okL1 kp)))))))) hv (by rfl) w
/-- a contract of a pattern, a mode and a truth -/
def gPmt (k : Int → Int → Bool → Value) : Ans := fun vals s =>
  match vals with
  | [.int .u64 p, .int .i64 m, .bool t] => some (k p m t, s, [(decide (U p), true)])
  | _ => none
theorem gPmt_ok {f : Nat} {k : Int → Int → Bool → Value} (hk : ∀ (p m : Int) (t : Bool), U p → ∀ w, Calls Try.prog f #[.int .u64 p, .int .i64 m, .bool t] w fun e w' => e = .returned (k p m t) ∧ Tidy w w') : AnsOk f (gPmt k) := by
  intro vals s v s' lg h hl w
  unfold gPmt at h
  split at h
  · cases h
    exact hk _ _ _ (of_decide_eq_true (hl _ (List.mem_singleton.2 rfl))) w
  · cases h
end Go.Proofs.Ytmfgjfnhonohjaa
