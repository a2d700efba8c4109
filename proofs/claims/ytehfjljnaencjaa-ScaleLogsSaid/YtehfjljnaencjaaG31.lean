/-
  What is known of calls, for the document's powers of two and neighbours; its power, in pieces.
-/
import Derived.Test.YtehfjljnaencjaaG16
import Derived.Test.YtehfjljnaencjaaG29
import Derived.Test.YtehfjljnaencjaaG30
import Derived.Test.YtehfjljnaencjaaG03
import Derived.WalkKit
import Derived.ProofKit
import Derived.OpenShut
import Derived.Laws.IdiomArrays
import Derived.Lib.SmallJoins
namespace Go.Proofs.Ytehfjljnaencjaa
open Go.KRun Go.Nt Go.Wd Go.Pt Go.Rn
set_option maxRecDepth 100000

def conD9 : Con := alt 37 (gU vT) (alt 28 gR0 conN)
theorem conD9_ok : ConOk conD9 := alt_ok Try.func37 rfl ref_ok (alt_ok Try.func28 rfl gR0_ok conN_ok)
def hcD9 : Hc := altH 27 gPt (altH 34 gUof (altH 56 gUlen (altH 28 gRrT hcN)))
theorem hcD9_ok : HcOk hcD9 := altH_ok Try.func27 rfl gPt_ok (altH_ok Try.func34 rfl gUof_ok (altH_ok Try.func56 rfl gUlen_ok (altH_ok Try.func28 rfl gRrT_ok hcN_ok)))
def pC9 (F : Func) : Nat → Code
  | 0 => cBody F
  | n + 1 => cSnd (pC9 F n)
def pPre9 (F : Func) : List Code := [cFst (pC9 F 0), cFst (pC9 F 1), cFst (pC9 F 2)]
def pLoop9 (F : Func) : Code := cIn (cIn (cFst (pC9 F 3)))
def pEnd9 (F : Func) : Code := pC9 F 4
theorem pw_body9 : Try.f33.body = some (seqs (pPre9 Try.f33) (.seq (.block 0 (.loop (pLoop9 Try.f33))) (pEnd9 Try.f33))) := by kernel_rfl
def hD9 (a : Int) : Hp := ⟨2, [bOf (sgn a) (xp a) (sOf 0 (sg a).toNat), w16 (sg a).toNat]⟩
def fD9 (a n : Int) : List Value := [.int .u64 a, undef, .int .i64 0, .pointer (some ⟨1, 0, none⟩), .int .i64 n]
theorem pw_pre9 (a : Int) : GoesT (evL (tabH Try.prog extY conD9 hcD9) 300 (pPre9 Try.f33) ([.int .u64 a] ++ List.replicate 18 undef, ⟨0, []⟩, []) ⟨[], [], []⟩) 5 14 none (fD9 a 1100) (hD9 a) [lU a] := ⟨by kernel_rfl, by kernel_rfl, by kernel_rfl⟩
def lgD9 (a n : Int) (d : Bool) : Bool × Bool := (decide (n > IntKind.i64.wrap (IntKind.i64.wrap (xp a + ((bl (vO (hD9 a) (aP16 0) (d16 (sg a).toNat).length) : Nat) : Int)) - 1)), d)
def okD9 (a : Int) : Bool := rowP (hD9 a) (aP16 0) (d16 (sg a).toNat).length (d16 (sg a).toNat).length && canB (rowOf (hD9 a) (aP16 0) (d16 (sg a).toNat).length) && Nat.blt (d16 (sg a).toNat).length 1073741824
theorem pw_rd9 (a n : Int) (g : Nat → Value) : GoesT (evC (tabH Try.prog extY conD9 hcD9) 300 false (pLoop9 Try.f33) (fD9 a n ++ tl 14 g, hD9 a, [cmp true]) ⟨[], [], []⟩) 5 14 none (fD9 a (IntKind.i64.wrap (n - 1))) (hD9 a) [lgD9 a n true, (okD9 a, true)] := ⟨by kernel_rfl, by kernel_rfl, by kernel_rfl⟩
theorem pw_out9 (a n : Int) (g : Nat → Value) : GoesT (evC (tabH Try.prog extY conD9 hcD9) 300 false (pLoop9 Try.f33) (fD9 a n ++ tl 14 g, hD9 a, [cmp false]) ⟨[], [], []⟩) 5 14 (some (some 0)) (fD9 a n) (hD9 a) [lgD9 a n false, (okD9 a, true)] := ⟨by kernel_rfl, by kernel_rfl, by kernel_rfl⟩
theorem pw_end9 (a n : Int) (g : Nat → Value) : GoesT (evC (tabH Try.prog extY conD9 hcD9) 300 false (pEnd9 Try.f33) (fD9 a n ++ tl 14 g, hD9 a, []) ⟨[], [], []⟩) 3 16 (some none) [.int .u64 a, undef, .int .i64 n] (hD9 a) [] := ⟨by kernel_rfl, by kernel_rfl, by kernel_rfl⟩
theorem okD9_t (a : Int) : okD9 a = true := by
  have sa := sg_lt a
  have e64 : (2 : Nat) ^ (16 * 4) = 18446744073709551616 := rfl
  have l1 := d16_len (A := (sg a).toNat) (k := 4) (by omega)
  unfold okD9 aP16
  rw [rowP_d16 (A := (sg a).toNat) rfl (by omega), rowOf_d16 (A := (sg a).toNat) rfl, show canB (d16 (sg a).toNat) = true from canB_mk (can_db (by omega) _), blt_iff.2 (by omega)]
  rfl
theorem lgD9_eq (a n : Int) (d : Bool) : lgD9 a n d = (decide (n > logN a), d) := by
  have xa := xp_bd a
  have hl := len_bd9 (a := a)
  have e : vO (hD9 a) (aP16 0) (d16 (sg a).toNat).length = (sg a).toNat := vO_aP (V := (sg a).toNat) rfl
  unfold lgD9 logN
  rw [e, bl_bitLen, wrapI' (n := xp a + _) ⟨by omega, by omega⟩, wrapI' ⟨by omega, by omega⟩]
def pwInv (a : Int) (k : Nat) (x : Lf) : Prop := ∃ (n : Int) (g : Nat → Value), x.1 = fD9 a n ++ tl 14 g ∧ x.2.1 = hD9 a ∧ logN a ≤ n ∧ n ≤ 1100 ∧ k = (n - logN a).toNat
def pwOut (a : Int) (x : Lf) : Prop := ∃ g : Nat → Value, x.1 = fD9 a (logN a) ++ tl 14 g ∧ x.2.1 = hD9 a
theorem logN_bd (a : Int) : -1075 ≤ logN a ∧ logN a ≤ 1024 := by
  have xa := xp_bd a
  have hl := len_bd9 (a := a)
  unfold logN
  omega
theorem pw_loop9 (a : Int) (k : Nat) (x : Lf) (h : pwInv a k x) : Runs (tabH Try.prog extY conD9 hcD9) (pLoop9 Try.f33) x fun e y => match e with | none => ∃ n', n' < k ∧ pwInv a n' y | some none => False | some (some id') => id' = 0 ∧ pwOut a y := by
  obtain ⟨n, g, e1, e2, h1, h2, hk⟩ := h
  obtain ⟨t, hh, s⟩ := x
  have e1 : t = _ := e1
  have e2 : hh = _ := e2
  subst e1 e2
  have lb := logN_bd a
  by_cases h0 : n > logN a
  · refine (goesT_runs (tabH_ok conD9_ok hcD9_ok) (pw_rd9 a n g) (okCons ((congrArg Prod.fst (lgD9_eq a n true)).trans (decide_eq_true h0)) (okL1 (okD9_t a)))).mono fun e z he => ?_
    obtain ⟨rfl, ⟨g', z1⟩, z2⟩ := he
    rw [wrapI' ⟨by omega, by omega⟩] at z1
    exact ⟨(n - 1 - logN a).toNat, by omega, n - 1, g', z1, z2, by omega, by omega, rfl⟩
  · refine (goesT_runs (tabH_ok conD9_ok hcD9_ok) (pw_out9 a n g) (okCons ((congrArg Prod.fst (lgD9_eq a n false)).trans (decide_eq_false h0)) (okL1 (okD9_t a)))).mono fun e z he => ?_
    obtain ⟨rfl, ⟨g', z1⟩, z2⟩ := he
    rw [show n = logN a by omega] at z1
    exact ⟨rfl, g', z1, z2⟩
theorem power_calls9 (a : Int) (ha : U a) (w : World) : Calls Try.prog 33 #[.int .u64 a] w fun r w' => r = .returned (.int .i64 (logN a)) ∧ Tidy w w' := by
  have hT := tabH_ok conD9_ok hcD9_ok
  have lb := logN_bd a
  refine calls_of_runs (T := tabH Try.prog extY conD9 hcD9) Try.func33 pw_body9 (by rfl) (by rfl) ?_ w
  refine goesT_list hT (pw_pre9 a) (okL1 (decide_eq_true ha)) fun g => ?_
  refine Runs.seq (P1 := fun e y => e = none ∧ pwOut a y) ?_ ?_ (fun e y he => by cases he.1)
  · refine (Runs.forLoop (R := fun _ => False) (P := pwOut a) (pwInv a) (pw_loop9 a) (n := (1100 - logN a).toNat) ⟨1100, g, rfl, rfl, by omega, by omega, rfl⟩).mono fun e z hz => ?_
    match e, hz with
    | none, hz => exact ⟨rfl, hz⟩
  · intro y he
    obtain ⟨_, g', e1, e2⟩ := he
    obtain ⟨t, hh, s⟩ := y
    have e1 : t = _ := e1
    have e2 : hh = _ := e2
    subst e1 e2
    refine (goesT_runs hT (pw_end9 a (logN a) g') okNil).mono fun e z hz => ?_
    obtain ⟨rfl, ⟨g2, z1⟩, z2⟩ := hz
    exact ⟨.inr rfl, by rw [z1, z2]; rfl⟩
def conE9 : Con := alt 33 (gU fun a => .int .i64 (logN a)) conD9
theorem conE9_ok : ConOk conE9 := alt_ok Try.func33 rfl (gU_ok fun a ha w => power_calls9 a ha w) conD9_ok
end Go.Proofs.Ytehfjljnaencjaa

/-
  The document's powers of two and neighbours (tillerref09), as calls in every world.
-/
namespace Go.Proofs.Ytehfjljnaencjaa
open Go.KRun Go.Nt Go.Wd Go.Pt Go.Rn
set_option maxRecDepth 100000

def vS9 (p f : Int) : Value := .tuple #[.int .u64 p, .int .i64 f]
def hE9 (a E : Int) : Hp := ⟨2, [bOf (sgn a) E (sOf 0 (sg a).toNat), w16 (sg a).toNat]⟩
def h1E (V : Nat) : Hp := ⟨1, [w16 V]⟩
def h2E (a : Int) : Hp := ⟨2, [w16 1, bPt a]⟩
theorem rs_n1 (a n m : Int) : Fits (reckon (tabH Try.prog extY conE9 hcD9) 300 9 [.int .u64 a, .int .i64 n, .int .i64 m] [cmp true, cmp true]) (vS9 9221120237041090560 1) [(cl a == 5, true), lU a, (decide (cl a > 3), true), lU a] := ⟨by kernel_rfl, by kernel_rfl, by kernel_rfl, by kernel_rfl⟩
theorem rs_n0 (a n m : Int) : Fits (reckon (tabH Try.prog extY conE9 hcD9) 300 9 [.int .u64 a, .int .i64 n, .int .i64 m] [cmp true, cmp false, cmp false]) (vS9 9221120237041090560 0) [(cl a == 5, false), lU a, (cl a == 5, false), lU a, (decide (cl a > 3), true), lU a] := ⟨by kernel_rfl, by kernel_rfl, by kernel_rfl, by kernel_rfl⟩
theorem rs_z (a n m : Int) : Fits (reckon (tabH Try.prog extY conE9 hcD9) 300 9 [.int .u64 a, .int .i64 n, .int .i64 m] [cmp false, cmp false, cmp true]) (vS9 a 0) [(a.tmod 9223372036854775808 == 0, true), (decide ((9223372036854775808 : Int) = 0), false), (decide (cl a > 3), false), lU a] := ⟨by kernel_rfl, by kernel_rfl, by kernel_rfl, by kernel_rfl⟩
theorem rs_e (a n m : Int) : Fits (reckon (tabH Try.prog extY conE9 hcD9) 300 9 [.int .u64 a, .int .i64 n, .int .i64 m] [cmp false, cmp false, cmp false, cmp false, cmp true]) (vS9 a 0) [(a.tmod 9223372036854775808 == 9218868437227405312, true), (decide ((9223372036854775808 : Int) = 0), false), (a.tmod 9223372036854775808 == 0, false), (decide ((9223372036854775808 : Int) = 0), false), (decide (cl a > 3), false), lU a] := ⟨by kernel_rfl, by kernel_rfl, by kernel_rfl, by kernel_rfl⟩
theorem rs_f (a n m : Int) : Fits (reckon (tabH Try.prog extY conE9 hcD9) 300 9 [.int .u64 a, .int .i64 n, .int .i64 m] [cmp false, cmp false, cmp false, cmp false, cmp false, num (sg a).toNat]) (vS9 (sS (sgn a) (rnP m (sgn a) (sg a).toNat (IntKind.i64.wrap (xp a + kN9 n)))) (rnF m (sgn a) (sg a).toNat (IntKind.i64.wrap (xp a + kN9 n)))) [(decide (vO (hE9 a (IntKind.i64.wrap (xp a + kN9 n))) (aP16 0) (d16 (sg a).toNat).length = (sg a).toNat), true), (okRo (hE9 a (IntKind.i64.wrap (xp a + kN9 n))) (aP16 0) (d16 (sg a).toNat).length (d16 (sg a).toNat).length (IntKind.i64.wrap (xp a + kN9 n)), true), lU a, (a.tmod 9223372036854775808 == 9218868437227405312, false), (decide ((9223372036854775808 : Int) = 0), false), (a.tmod 9223372036854775808 == 0, false), (decide ((9223372036854775808 : Int) = 0), false), (decide (cl a > 3), false), lU a] := ⟨by kernel_rfl, by kernel_rfl, by kernel_rfl, by kernel_rfl⟩
theorem rl_n1 (a : Int) : Fits (reckon (tabH Try.prog extY conE9 hcD9) 300 12 [.int .u64 a] [cmp true, cmp true]) (vS9 9221120237041090560 1) [(cl a == 5, true), lU a, (decide (cl a > 3), true), lU a] := ⟨by kernel_rfl, by kernel_rfl, by kernel_rfl, by kernel_rfl⟩
theorem rl_n0 (a : Int) : Fits (reckon (tabH Try.prog extY conE9 hcD9) 300 12 [.int .u64 a] [cmp true, cmp false, cmp false]) (vS9 9221120237041090560 0) [(cl a == 5, false), lU a, (cl a == 5, false), lU a, (decide (cl a > 3), true), lU a] := ⟨by kernel_rfl, by kernel_rfl, by kernel_rfl, by kernel_rfl⟩
theorem rl_e (a : Int) : Fits (reckon (tabH Try.prog extY conE9 hcD9) 300 12 [.int .u64 a] [cmp false, cmp false, cmp true]) (vS9 9218868437227405312 0) [(a.tmod 9223372036854775808 == 9218868437227405312, true), (decide ((9223372036854775808 : Int) = 0), false), (decide (cl a > 3), false), lU a] := ⟨by kernel_rfl, by kernel_rfl, by kernel_rfl, by kernel_rfl⟩
theorem rl_z (a : Int) : Fits (reckon (tabH Try.prog extY conE9 hcD9) 300 12 [.int .u64 a] [cmp false, cmp false, cmp false, cmp false, cmp true]) (vS9 18442240474082181120 2) [(a.tmod 9223372036854775808 == 0, true), (decide ((9223372036854775808 : Int) = 0), false), (a.tmod 9223372036854775808 == 9218868437227405312, false), (decide ((9223372036854775808 : Int) = 0), false), (decide (cl a > 3), false), lU a] := ⟨by kernel_rfl, by kernel_rfl, by kernel_rfl, by kernel_rfl⟩
theorem rl_m (a : Int) : Fits (reckon (tabH Try.prog extY conE9 hcD9) 300 12 [.int .u64 a] [cmp false, cmp false, cmp false, cmp false, cmp false, cmp true, num (IntKind.u64.wrap (IntKind.i64.wrap (0 - logN a))).toNat]) (vS9 (sS true (rnP 0 true (IntKind.u64.wrap (IntKind.i64.wrap (0 - logN a))).toNat 0)) (rnF 0 true (IntKind.u64.wrap (IntKind.i64.wrap (0 - logN a))).toNat 0)) [(decide (vO (h1E (IntKind.u64.wrap (IntKind.i64.wrap (0 - logN a))).toNat) (aP16 0) (d16 (IntKind.u64.wrap (IntKind.i64.wrap (0 - logN a))).toNat).length = (IntKind.u64.wrap (IntKind.i64.wrap (0 - logN a))).toNat), true), (okRo (h1E (IntKind.u64.wrap (IntKind.i64.wrap (0 - logN a))).toNat) (aP16 0) (d16 (IntKind.u64.wrap (IntKind.i64.wrap (0 - logN a))).toNat).length (d16 (IntKind.u64.wrap (IntKind.i64.wrap (0 - logN a))).toNat).length 0, true), (decide (0 ≤ (IntKind.u64.wrap (IntKind.i64.wrap (0 - logN a))) ∧ (IntKind.u64.wrap (IntKind.i64.wrap (0 - logN a))) < 18446744073709551616), true), (decide (logN a < 0), true), lU a, (a.tmod 9223372036854775808 == 0, false), (decide ((9223372036854775808 : Int) = 0), false), (a.tmod 9223372036854775808 == 9218868437227405312, false), (decide ((9223372036854775808 : Int) = 0), false), (decide (cl a > 3), false), lU a] := ⟨by kernel_rfl, by kernel_rfl, by kernel_rfl, by kernel_rfl⟩
theorem rl_p (a : Int) : Fits (reckon (tabH Try.prog extY conE9 hcD9) 300 12 [.int .u64 a] [cmp false, cmp false, cmp false, cmp false, cmp false, cmp false, num (IntKind.u64.wrap (logN a)).toNat]) (vS9 (sS false (rnP 0 false (IntKind.u64.wrap (logN a)).toNat 0)) (rnF 0 false (IntKind.u64.wrap (logN a)).toNat 0)) [(decide (vO (h1E (IntKind.u64.wrap (logN a)).toNat) (aP16 0) (d16 (IntKind.u64.wrap (logN a)).toNat).length = (IntKind.u64.wrap (logN a)).toNat), true), (okRo (h1E (IntKind.u64.wrap (logN a)).toNat) (aP16 0) (d16 (IntKind.u64.wrap (logN a)).toNat).length (d16 (IntKind.u64.wrap (logN a)).toNat).length 0, true), (decide (0 ≤ (IntKind.u64.wrap (logN a)) ∧ (IntKind.u64.wrap (logN a)) < 18446744073709551616), true), (decide (logN a < 0), false), lU a, (a.tmod 9223372036854775808 == 0, false), (decide ((9223372036854775808 : Int) = 0), false), (a.tmod 9223372036854775808 == 9218868437227405312, false), (decide ((9223372036854775808 : Int) = 0), false), (decide (cl a > 3), false), lU a] := ⟨by kernel_rfl, by kernel_rfl, by kernel_rfl, by kernel_rfl⟩
theorem rt_n1 (a : Int) : Fits (reckon (tabH Try.prog extY conE9 hcD9) 300 14 [.int .u64 a] [cmp true, cmp true]) (vS9 9221120237041090560 1) [(cl a == 5, true), lU a, (decide (cl a > 3), true), lU a] := ⟨by kernel_rfl, by kernel_rfl, by kernel_rfl, by kernel_rfl⟩
theorem rt_n0 (a : Int) : Fits (reckon (tabH Try.prog extY conE9 hcD9) 300 14 [.int .u64 a] [cmp true, cmp false, cmp false]) (vS9 9221120237041090560 0) [(cl a == 5, false), lU a, (cl a == 5, false), lU a, (decide (cl a > 3), true), lU a] := ⟨by kernel_rfl, by kernel_rfl, by kernel_rfl, by kernel_rfl⟩
theorem rt_e (a : Int) : Fits (reckon (tabH Try.prog extY conE9 hcD9) 300 14 [.int .u64 a] [cmp false, cmp false, cmp true]) (vS9 9218868437227405312 0) [(a.tmod 9223372036854775808 == 9218868437227405312, true), (decide ((9223372036854775808 : Int) = 0), false), (decide (cl a > 3), false), lU a] := ⟨by kernel_rfl, by kernel_rfl, by kernel_rfl, by kernel_rfl⟩
theorem rt_f (a : Int) : Fits (reckon (tabH Try.prog extY conE9 hcD9) 300 14 [.int .u64 a] [cmp false, cmp false, cmp false, num 1]) (vS9 (sS false (rnP 0 false 1 (xp a))) (rnF 0 false 1 (xp a))) [(decide (vO (h2E a) (aP16 1) (d16 1).length = 1), true), (okRo (h2E a) (aP16 1) (d16 1).length (d16 1).length (xp a), true), (decide ((0 : Int) ≤ 1 ∧ (1 : Int) < 18446744073709551616), true), lU a, (a.tmod 9223372036854775808 == 9218868437227405312, false), (decide ((9223372036854775808 : Int) = 0), false), (decide (cl a > 3), false), lU a] := ⟨by kernel_rfl, by kernel_rfl, by kernel_rfl, by kernel_rfl⟩
theorem ru_n1 (a : Int) : Fits (reckon (tabH Try.prog extY conE9 hcD9) 300 16 [.int .u64 a] [cmp true, cmp true]) (vS9 9221120237041090560 1) [(cl a == 5, true), lU a, (decide (cl a > 3), true), lU a] := ⟨by kernel_rfl, by kernel_rfl, by kernel_rfl, by kernel_rfl⟩
theorem ru_n0 (a : Int) : Fits (reckon (tabH Try.prog extY conE9 hcD9) 300 16 [.int .u64 a] [cmp true, cmp false, cmp false]) (vS9 9221120237041090560 0) [(cl a == 5, false), lU a, (cl a == 5, false), lU a, (decide (cl a > 3), true), lU a] := ⟨by kernel_rfl, by kernel_rfl, by kernel_rfl, by kernel_rfl⟩
theorem ru_e (a : Int) : Fits (reckon (tabH Try.prog extY conE9 hcD9) 300 16 [.int .u64 a] [cmp false, cmp true]) (vS9 a 0) [(a == 9218868437227405312, true), (decide (cl a > 3), false), lU a] := ⟨by kernel_rfl, by kernel_rfl, by kernel_rfl, by kernel_rfl⟩
theorem ru_1 (a : Int) : Fits (reckon (tabH Try.prog extY conE9 hcD9) 300 16 [.int .u64 a] [cmp false, cmp false, cmp true]) (vS9 1 0) [(a == 0, true), (a == 9218868437227405312, false), (decide (cl a > 3), false), lU a] := ⟨by kernel_rfl, by kernel_rfl, by kernel_rfl, by kernel_rfl⟩
theorem ru_2 (a : Int) : Fits (reckon (tabH Try.prog extY conE9 hcD9) 300 16 [.int .u64 a] [cmp false, cmp false, cmp false, cmp true]) (vS9 1 0) [(a == 9223372036854775808, true), (a == 0, false), (a == 9218868437227405312, false), (decide (cl a > 3), false), lU a] := ⟨by kernel_rfl, by kernel_rfl, by kernel_rfl, by kernel_rfl⟩
theorem ru_m (a : Int) : Fits (reckon (tabH Try.prog extY conE9 hcD9) 300 16 [.int .u64 a] [cmp false, cmp false, cmp false, cmp false, cmp true]) (vS9 (IntKind.u64.wrap (a - 1)) 0) [(decide (a > 9223372036854775808), true), (a == 9223372036854775808, false), (a == 0, false), (a == 9218868437227405312, false), (decide (cl a > 3), false), lU a] := ⟨by kernel_rfl, by kernel_rfl, by kernel_rfl, by kernel_rfl⟩
theorem ru_p (a : Int) : Fits (reckon (tabH Try.prog extY conE9 hcD9) 300 16 [.int .u64 a] [cmp false, cmp false, cmp false, cmp false, cmp false]) (vS9 (IntKind.u64.wrap (a + 1)) 0) [(decide (a > 9223372036854775808), false), (a == 9223372036854775808, false), (a == 0, false), (a == 9218868437227405312, false), (decide (cl a > 3), false), lU a] := ⟨by kernel_rfl, by kernel_rfl, by kernel_rfl, by kernel_rfl⟩
theorem rd_n1 (a : Int) : Fits (reckon (tabH Try.prog extY conE9 hcD9) 300 18 [.int .u64 a] [cmp true, cmp true]) (vS9 9221120237041090560 1) [(cl a == 5, true), lU a, (decide (cl a > 3), true), lU a] := ⟨by kernel_rfl, by kernel_rfl, by kernel_rfl, by kernel_rfl⟩
theorem rd_n0 (a : Int) : Fits (reckon (tabH Try.prog extY conE9 hcD9) 300 18 [.int .u64 a] [cmp true, cmp false, cmp false]) (vS9 9221120237041090560 0) [(cl a == 5, false), lU a, (cl a == 5, false), lU a, (decide (cl a > 3), true), lU a] := ⟨by kernel_rfl, by kernel_rfl, by kernel_rfl, by kernel_rfl⟩
theorem rd_e (a : Int) : Fits (reckon (tabH Try.prog extY conE9 hcD9) 300 18 [.int .u64 a] [cmp false, cmp true]) (vS9 a 0) [(a == 18442240474082181120, true), (decide (cl a > 3), false), lU a] := ⟨by kernel_rfl, by kernel_rfl, by kernel_rfl, by kernel_rfl⟩
theorem rd_1 (a : Int) : Fits (reckon (tabH Try.prog extY conE9 hcD9) 300 18 [.int .u64 a] [cmp false, cmp false, cmp true]) (vS9 9223372036854775809 0) [(a == 0, true), (a == 18442240474082181120, false), (decide (cl a > 3), false), lU a] := ⟨by kernel_rfl, by kernel_rfl, by kernel_rfl, by kernel_rfl⟩
theorem rd_2 (a : Int) : Fits (reckon (tabH Try.prog extY conE9 hcD9) 300 18 [.int .u64 a] [cmp false, cmp false, cmp false, cmp true]) (vS9 9223372036854775809 0) [(a == 9223372036854775808, true), (a == 0, false), (a == 18442240474082181120, false), (decide (cl a > 3), false), lU a] := ⟨by kernel_rfl, by kernel_rfl, by kernel_rfl, by kernel_rfl⟩
theorem rd_m (a : Int) : Fits (reckon (tabH Try.prog extY conE9 hcD9) 300 18 [.int .u64 a] [cmp false, cmp false, cmp false, cmp false, cmp true]) (vS9 (IntKind.u64.wrap (a + 1)) 0) [(decide (a > 9223372036854775808), true), (a == 9223372036854775808, false), (a == 0, false), (a == 18442240474082181120, false), (decide (cl a > 3), false), lU a] := ⟨by kernel_rfl, by kernel_rfl, by kernel_rfl, by kernel_rfl⟩
theorem rd_p (a : Int) : Fits (reckon (tabH Try.prog extY conE9 hcD9) 300 18 [.int .u64 a] [cmp false, cmp false, cmp false, cmp false, cmp false]) (vS9 (IntKind.u64.wrap (a - 1)) 0) [(decide (a > 9223372036854775808), false), (a == 9223372036854775808, false), (a == 0, false), (a == 18442240474082181120, false), (decide (cl a > 3), false), lU a] := ⟨by kernel_rfl, by kernel_rfl, by kernel_rfl, by kernel_rfl⟩
theorem mag_z9 {a : Int} : cl a = 0 ↔ mag a = 0 := by
  refine ⟨mag_cl0, fun h => ?_⟩
  have e := mag_eq a
  have h1 := ex_lt a
  have h2 := fr_lt a
  unfold cl
  rw [if_pos (by omega), if_pos (by omega)]
theorem cls9 {a : Int} (ha : U a) : a.tmod 9223372036854775808 = mag a ∧ (cl a = 0 ↔ mag a = 0) ∧ (cl a = 3 ↔ mag a = 9218868437227405312) ∧ (3 < cl a ↔ 9218868437227405312 < mag a) := by
  refine ⟨by rw [Int.tmod_eq_emod_of_nonneg ha.1]; rfl, mag_z9, (mag_cl a).2.1, (mag_cl a).1⟩
theorem d16_4 {V : Nat} (h : V < 18446744073709551616) : (d16 V).length < 20000 := by
  have e64 : (2 : Nat) ^ (16 * 4) = 18446744073709551616 := rfl
  have := d16_len (A := V) (k := 4) (by omega)
  omega
theorem rscale_calls (a n m : Int) (ha : U a) (w : World) : Calls Try.prog 9 #[.int .u64 a, .int .i64 n, .int .i64 m] w fun r w' => r = .returned (vS9 (scaP m a n) (scaF m a n)) ∧ Tidy w w' := by
  have hv : ([.int .u64 a, .int .i64 n, .int .i64 m].all (lt 0)) = true := rfl
  have T := tabH_ok conE9_ok hcD9_ok
  have ka : decide (U a) = true := decide_eq_true ha
  have ba := cl_bd a
  have xa := xp_bd a
  have sa := sg_lt a
  obtain ⟨et, z1, z2, z3⟩ := cls9 ha
  unfold scaP scaF nanF
  by_cases ha3 : 3 < cl a
  · rw [if_pos ha3, if_pos ha3]
    by_cases a5 : cl a = 5
    · rw [if_pos a5]
      exact fits_calls T (rs_n1 a n m) (okCons (beq_t (by omega)) (okCons ka (okCons (decide_eq_true (by omega)) (okL1 ka)))) hv (by rfl) w
    · rw [if_neg a5]
      exact fits_calls T (rs_n0 a n m) (okCons (beq_f (by omega)) (okCons ka (okCons (beq_f (by omega)) (okCons ka (okCons (decide_eq_true (by omega)) (okL1 ka)))))) hv (by rfl) w
  rw [if_neg ha3, if_neg ha3]
  by_cases a0 : cl a = 0
  · rw [if_pos (.inl a0), if_pos (.inl a0)]
    exact fits_calls T (rs_z a n m) (okCons (beq_t (by rw [et]; omega)) (okCons (by decide) (okCons (decide_eq_false (by omega)) (okL1 ka)))) hv (by rfl) w
  by_cases a3 : cl a = 3
  · rw [if_pos (.inr a3), if_pos (.inr a3)]
    exact fits_calls T (rs_e a n m) (okCons (beq_t (by rw [et]; omega)) (okCons (by decide) (okCons (beq_f (by rw [et]; omega)) (okCons (by decide) (okCons (decide_eq_false (by omega)) (okL1 ka)))))) hv (by rfl) w
  rw [if_neg (by omega), if_neg (by omega)]
  have kb : -9000 ≤ kN9 n ∧ kN9 n ≤ 9000 := by unfold kN9; split <;> split <;> omega
  have ew : IntKind.i64.wrap (xp a + kN9 n) = xp a + kN9 n := wrapI' ⟨by omega, by omega⟩
  have hE : -400000 ≤ IntKind.i64.wrap (xp a + kN9 n) ∧ IntKind.i64.wrap (xp a + kN9 n) ≤ 400000 := by rw [ew]; omega
  have hl := d16_4 (V := (sg a).toNat) (by omega)
  have hf := rs_f a n m
  have hp : scP m a (kN9 n) = rnP m (sgn a) (sg a).toNat (IntKind.i64.wrap (xp a + kN9 n)) := by rw [ew]; rfl
  have hq : scF m a (kN9 n) = rnF m (sgn a) (sg a).toNat (IntKind.i64.wrap (xp a + kN9 n)) := by rw [ew]; rfl
  rw [hp, hq]
  exact fits_calls T hf (okCons (decide_eq_true (vO_aP (V := (sg a).toNat) rfl)) (okCons (oRo (V := (sg a).toNat) rfl (by omega) hE) (okCons ka (okCons (beq_f (by rw [et]; omega)) (okCons (by decide) (okCons (beq_f (by rw [et]; omega)) (okCons (by decide) (okCons (decide_eq_false (by omega)) (okL1 ka))))))))) hv (by rfl) w
theorem rlog_calls (a : Int) (ha : U a) (w : World) : Calls Try.prog 12 #[.int .u64 a] w fun r w' => r = .returned (vS9 (logP a) (logF a)) ∧ Tidy w w' := by
  have hv : ([.int .u64 a].all (lt 0)) = true := rfl
  have T := tabH_ok conE9_ok hcD9_ok
  have ka : decide (U a) = true := decide_eq_true ha
  have ba := cl_bd a
  have xa := xp_bd a
  have sa := sg_lt a
  obtain ⟨et, z1, z2, z3⟩ := cls9 ha
  unfold logP logF nanF
  by_cases ha3 : 3 < cl a
  · rw [if_pos ha3, if_pos ha3]
    by_cases a5 : cl a = 5
    · rw [if_pos a5]
      exact fits_calls T (rl_n1 a) (okCons (beq_t (by omega)) (okCons ka (okCons (decide_eq_true (by omega)) (okL1 ka)))) hv (by rfl) w
    · rw [if_neg a5]
      exact fits_calls T (rl_n0 a) (okCons (beq_f (by omega)) (okCons ka (okCons (beq_f (by omega)) (okCons ka (okCons (decide_eq_true (by omega)) (okL1 ka)))))) hv (by rfl) w
  rw [if_neg ha3, if_neg ha3]
  by_cases a0 : cl a = 0
  · rw [if_pos a0, if_pos a0]
    exact fits_calls T (rl_z a) (okCons (beq_t (by rw [et]; omega)) (okCons (by decide) (okCons (beq_f (by rw [et]; omega)) (okCons (by decide) (okCons (decide_eq_false (by omega)) (okL1 ka)))))) hv (by rfl) w
  rw [if_neg a0, if_neg a0]
  by_cases a3 : cl a = 3
  · rw [if_pos a3, if_pos a3]
    exact fits_calls T (rl_e a) (okCons (beq_t (by rw [et]; omega)) (okCons (by decide) (okCons (decide_eq_false (by omega)) (okL1 ka)))) hv (by rfl) w
  rw [if_neg a3, if_neg a3]
  have lb := logN_bd a
  by_cases hn : logN a < 0
  · rw [decide_eq_true hn]
    have e1 : IntKind.u64.wrap (IntKind.i64.wrap (0 - logN a)) = 0 - logN a := by rw [wrapI' (n := 0 - logN a) ⟨by omega, by omega⟩, wrapU' ⟨by omega, by omega⟩]
    have hx : 0 ≤ IntKind.u64.wrap (IntKind.i64.wrap (0 - logN a)) ∧ IntKind.u64.wrap (IntKind.i64.wrap (0 - logN a)) < 18446744073709551616 := by rw [e1]; omega
    have hV := d16_4 (V := (IntKind.u64.wrap (IntKind.i64.wrap (0 - logN a))).toNat) (by omega)
    have e2 : (logN a).natAbs = (IntKind.u64.wrap (IntKind.i64.wrap (0 - logN a))).toNat := by rw [e1]; omega
    rw [e2]
    exact fits_calls T (rl_m a) (okCons (decide_eq_true (vO_aP (V := (IntKind.u64.wrap (IntKind.i64.wrap (0 - logN a))).toNat) rfl)) (okCons (oRo (V := (IntKind.u64.wrap (IntKind.i64.wrap (0 - logN a))).toNat) rfl hV ⟨by omega, by omega⟩) (okCons (decide_eq_true hx) (okCons (decide_eq_true hn) (okCons ka (okCons (beq_f (by rw [et]; omega)) (okCons (by decide) (okCons (beq_f (by rw [et]; omega)) (okCons (by decide) (okCons (decide_eq_false (by omega)) (okL1 ka))))))))))) hv (by rfl) w
  · rw [decide_eq_false hn]
    have e1 : IntKind.u64.wrap (logN a) = logN a := wrapU' ⟨by omega, by omega⟩
    have hx : 0 ≤ IntKind.u64.wrap (logN a) ∧ IntKind.u64.wrap (logN a) < 18446744073709551616 := by rw [e1]; omega
    have hV := d16_4 (V := (IntKind.u64.wrap (logN a)).toNat) (by omega)
    have e2 : (logN a).natAbs = (IntKind.u64.wrap (logN a)).toNat := by rw [e1]; omega
    rw [e2]
    exact fits_calls T (rl_p a) (okCons (decide_eq_true (vO_aP (V := (IntKind.u64.wrap (logN a)).toNat) rfl)) (okCons (oRo (V := (IntKind.u64.wrap (logN a)).toNat) rfl hV ⟨by omega, by omega⟩) (okCons (decide_eq_true hx) (okCons (decide_eq_false hn) (okCons ka (okCons (beq_f (by rw [et]; omega)) (okCons (by decide) (okCons (beq_f (by rw [et]; omega)) (okCons (by decide) (okCons (decide_eq_false (by omega)) (okL1 ka))))))))))) hv (by rfl) w
theorem rstep_calls (a : Int) (ha : U a) (w : World) : Calls Try.prog 14 #[.int .u64 a] w fun r w' => r = .returned (vS9 (stepP a) (stepF a)) ∧ Tidy w w' := by
  have hv : ([.int .u64 a].all (lt 0)) = true := rfl
  have T := tabH_ok conE9_ok hcD9_ok
  have ka : decide (U a) = true := decide_eq_true ha
  have ba := cl_bd a
  have xa := xp_bd a
  have sa := sg_lt a
  obtain ⟨et, z1, z2, z3⟩ := cls9 ha
  unfold stepP stepF nanF
  by_cases ha3 : 3 < cl a
  · rw [if_pos ha3, if_pos ha3]
    by_cases a5 : cl a = 5
    · rw [if_pos a5]
      exact fits_calls T (rt_n1 a) (okCons (beq_t (by omega)) (okCons ka (okCons (decide_eq_true (by omega)) (okL1 ka)))) hv (by rfl) w
    · rw [if_neg a5]
      exact fits_calls T (rt_n0 a) (okCons (beq_f (by omega)) (okCons ka (okCons (beq_f (by omega)) (okCons ka (okCons (decide_eq_true (by omega)) (okL1 ka)))))) hv (by rfl) w
  rw [if_neg ha3, if_neg ha3]
  by_cases a3 : cl a = 3
  · rw [if_pos a3]
    exact fits_calls T (rt_e a) (okCons (beq_t (by rw [et]; omega)) (okCons (by decide) (okCons (decide_eq_false (by omega)) (okL1 ka)))) hv (by rfl) w
  rw [if_neg a3]
  have h1 := d16_4 (V := 1) (by omega)
  obtain ⟨f0, p0, _⟩ := st_num (p := a) (fin_ex (by omega)) 0 false
  have hf := rt_f a
  rw [p0, f0] at hf
  exact fits_calls T hf (okCons (decide_eq_true (vO_aP (V := 1) rfl)) (okCons (oRo (V := 1) rfl h1 ⟨by omega, by omega⟩) (okCons (by decide) (okCons ka (okCons (beq_f (by rw [et]; omega)) (okCons (by decide) (okCons (decide_eq_false (by omega)) (okL1 ka)))))))) hv (by rfl) w
theorem rup_calls (a : Int) (ha : U a) (w : World) : Calls Try.prog 16 #[.int .u64 a] w fun r w' => r = .returned (vS9 (upP a) (upF a)) ∧ Tidy w w' := by
  have hv : ([.int .u64 a].all (lt 0)) = true := rfl
  have T := tabH_ok conE9_ok hcD9_ok
  have ka : decide (U a) = true := decide_eq_true ha
  have ba := cl_bd a
  have xa := xp_bd a
  have sa := sg_lt a
  obtain ⟨et, z1, z2, z3⟩ := cls9 ha
  have hu := ha
  unfold U at hu
  have hm : mag a = a % 9223372036854775808 := rfl
  unfold upP upF nanF
  by_cases ha3 : 3 < cl a
  · rw [if_pos ha3, if_pos ha3]
    by_cases a5 : cl a = 5
    · rw [if_pos a5]
      exact fits_calls T (ru_n1 a) (okCons (beq_t (by omega)) (okCons ka (okCons (decide_eq_true (by omega)) (okL1 ka)))) hv (by rfl) w
    · rw [if_neg a5]
      exact fits_calls T (ru_n0 a) (okCons (beq_f (by omega)) (okCons ka (okCons (beq_f (by omega)) (okCons ka (okCons (decide_eq_true (by omega)) (okL1 ka)))))) hv (by rfl) w
  rw [if_neg ha3, if_neg ha3]
  by_cases hi : a = 9218868437227405312
  · rw [if_pos hi]
    exact fits_calls T (ru_e a) (okCons (beq_t (by omega)) (okCons (decide_eq_false (by omega)) (okL1 ka))) hv (by rfl) w
  rw [if_neg hi]
  by_cases a0 : cl a = 0
  · rw [if_pos a0]
    by_cases h0 : a = 0
    · exact fits_calls T (ru_1 a) (okCons (beq_t (by omega)) (okCons (beq_f (by omega)) (okCons (decide_eq_false (by omega)) (okL1 ka)))) hv (by rfl) w
    · exact fits_calls T (ru_2 a) (okCons (beq_t (by omega)) (okCons (beq_f (by omega)) (okCons (beq_f (by omega)) (okCons (decide_eq_false (by omega)) (okL1 ka))))) hv (by rfl) w
  rw [if_neg a0]
  by_cases hs : a < 9223372036854775808
  · rw [if_pos hs]
    have hf := ru_p a
    rw [wrapU' (n := a + 1) ⟨by omega, by omega⟩] at hf
    exact fits_calls T hf (okCons (decide_eq_false (by omega)) (okCons (beq_f (by omega)) (okCons (beq_f (by omega)) (okCons (beq_f (by omega)) (okCons (decide_eq_false (by omega)) (okL1 ka)))))) hv (by rfl) w
  · rw [if_neg hs]
    have hf := ru_m a
    rw [wrapU' (n := a - 1) ⟨by omega, by omega⟩] at hf
    exact fits_calls T hf (okCons (decide_eq_true (by omega)) (okCons (beq_f (by omega)) (okCons (beq_f (by omega)) (okCons (beq_f (by omega)) (okCons (decide_eq_false (by omega)) (okL1 ka)))))) hv (by rfl) w
/-- Down, as it is told itself -/
theorem dn_eq9 {a : Int} (ha : U a) (h3 : ¬ 3 < cl a) : dnP a = if a = 18442240474082181120 then a else if cl a = 0 then 9223372036854775809 else if 9223372036854775808 < a then a + 1 else a - 1 := by
  have hc := cl_ng ha
  have hu := ha
  unfold U at hu
  obtain ⟨_, z1, z2, z3⟩ := cls9 ha
  have hm : mag a = a % 9223372036854775808 := rfl
  unfold dnP upP
  rw [if_neg h3, hc, if_neg h3]
  have en : ng a = (a + 9223372036854775808) % 18446744073709551616 := rfl
  by_cases hi : a = 18442240474082181120
  · rw [if_pos hi, if_pos (by omega), hi]; rfl
  rw [if_neg hi, if_neg (by omega)]
  by_cases a0 : cl a = 0
  · rw [if_pos a0, if_pos a0]; rfl
  rw [if_neg a0, if_neg a0]
  by_cases hs : 9223372036854775808 < a
  · rw [if_pos hs, if_pos (by omega)]
    unfold ng
    omega
  · rw [if_neg hs, if_neg (by omega)]
    unfold ng
    omega
theorem rdown_calls (a : Int) (ha : U a) (w : World) : Calls Try.prog 18 #[.int .u64 a] w fun r w' => r = .returned (vS9 (dnP a) (upF a)) ∧ Tidy w w' := by
  have hv : ([.int .u64 a].all (lt 0)) = true := rfl
  have T := tabH_ok conE9_ok hcD9_ok
  have ka : decide (U a) = true := decide_eq_true ha
  have ba := cl_bd a
  have xa := xp_bd a
  have sa := sg_lt a
  obtain ⟨et, z1, z2, z3⟩ := cls9 ha
  have hu := ha
  unfold U at hu
  have hm : mag a = a % 9223372036854775808 := rfl
  by_cases ha3 : 3 < cl a
  · unfold dnP upF nanF
    rw [if_pos ha3, if_pos ha3]
    by_cases a5 : cl a = 5
    · rw [if_pos a5]
      exact fits_calls T (rd_n1 a) (okCons (beq_t (by omega)) (okCons ka (okCons (decide_eq_true (by omega)) (okL1 ka)))) hv (by rfl) w
    · rw [if_neg a5]
      exact fits_calls T (rd_n0 a) (okCons (beq_f (by omega)) (okCons ka (okCons (beq_f (by omega)) (okCons ka (okCons (decide_eq_true (by omega)) (okL1 ka)))))) hv (by rfl) w
  rw [dn_eq9 ha ha3]
  unfold upF
  rw [if_neg ha3]
  by_cases hi : a = 18442240474082181120
  · rw [if_pos hi]
    exact fits_calls T (rd_e a) (okCons (beq_t (by omega)) (okCons (decide_eq_false (by omega)) (okL1 ka))) hv (by rfl) w
  rw [if_neg hi]
  by_cases a0 : cl a = 0
  · rw [if_pos a0]
    by_cases h0 : a = 0
    · exact fits_calls T (rd_1 a) (okCons (beq_t (by omega)) (okCons (beq_f (by omega)) (okCons (decide_eq_false (by omega)) (okL1 ka)))) hv (by rfl) w
    · exact fits_calls T (rd_2 a) (okCons (beq_t (by omega)) (okCons (beq_f (by omega)) (okCons (beq_f (by omega)) (okCons (decide_eq_false (by omega)) (okL1 ka))))) hv (by rfl) w
  rw [if_neg a0]
  by_cases hs : 9223372036854775808 < a
  · rw [if_pos hs]
    have hf := rd_m a
    rw [wrapU' (n := a + 1) ⟨by omega, by omega⟩] at hf
    exact fits_calls T hf (okCons (decide_eq_true (by omega)) (okCons (beq_f (by omega)) (okCons (beq_f (by omega)) (okCons (beq_f (by omega)) (okCons (decide_eq_false (by omega)) (okL1 ka)))))) hv (by rfl) w
  · rw [if_neg hs]
    have hf := rd_p a
    rw [wrapU' (n := a - 1) ⟨by omega, by omega⟩] at hf
    exact fits_calls T hf (okCons (decide_eq_false (by omega)) (okCons (beq_f (by omega)) (okCons (beq_f (by omega)) (okCons (beq_f (by omega)) (okCons (decide_eq_false (by omega)) (okL1 ka)))))) hv (by rfl) w
def gRS9 : Ans := fun vals s =>
  match vals with
  | [.int .u64 a, .int .i64 n, .int .i64 m] => some (vS9 (scaP m a n) (scaF m a n), s, [(decide (U a), true)])
  | _ => none
theorem gRS9_ok : AnsOk 9 gRS9 := by
  intro vals s v s' lg h hl w
  unfold gRS9 at h
  split at h
  · cases h
    exact rscale_calls _ _ _ (of_decide_eq_true (hl _ (List.mem_singleton.2 rfl))) w
  · cases h
def conF9 : Con := alt 9 gRS9 (alt 12 (gU fun a => vS9 (logP a) (logF a)) (alt 14 (gU fun a => vS9 (stepP a) (stepF a)) (alt 16 (gU fun a => vS9 (upP a) (upF a)) (alt 18 (gU fun a => vS9 (dnP a) (upF a)) conS9))))
theorem conF9_ok : ConOk conF9 := alt_ok Try.func9 rfl gRS9_ok (alt_ok Try.func12 rfl (gU_ok rlog_calls) (alt_ok Try.func14 rfl (gU_ok rstep_calls) (alt_ok Try.func16 rfl (gU_ok rup_calls) (alt_ok Try.func18 rfl (gU_ok rdown_calls) conS9_ok))))
end Go.Proofs.Ytehfjljnaencjaa

/-
  The row's side: an argument that is four words of 64 bits, opened and shut; what a call that only makes memory leaves.
-/
namespace Go.KRun
open Go.ChangeShapes Go.WideShapes Go.ChangeAt Go.RowKit Go.Joins

section
variable {H : Type} {enc : TypeId × Value → H} {P : Program} {w : World} {base : Nat} {spare : Nat → Bool} {held : Bool}

theorem open_w4 {r : Go.Reach} {b0 : Nat} {t e : TypeId} {v : Value} {d : DataW H} {p : List MemPlace} (hu : P.underlying t = some (.array 4 e)) (hue : P.underlying e = some (.int .u64)) (hC : P.cellsOf t = 4) (hce : P.cellsOf e = 1)
    (hv : Value.okWide P w r b0 t v) (h : DataW.Trod enc P w base spare held t v d p) :
    ∃ a0 a1 a2 a3 : Int, v = .agg #[.int .u64 a0, .int .u64 a1, .int .u64 a2, .int .u64 a3] ∧ d = .agg [.lit (.int .u64 a0), .lit (.int .u64 a1), .lit (.int .u64 a2), .lit (.int .u64 a3)] ∧ p = [] ∧
      (Lit.int .u64 a0).wf = true ∧ (Lit.int .u64 a1).wf = true ∧ (Lit.int .u64 a2).wf = true ∧ (Lit.int .u64 a3).wf = true := by
  have hv' := hv
  simp only [Value.okWide, hu] at hv'
  obtain ⟨cs, rfl, hsz, _⟩ := hv'
  obtain ⟨c0, c1, c2, c3, rfl⟩ := array4 (hsz.trans hC)
  obtain ⟨fuel, hf⟩ := h
  have hf' : DataW.trod enc P w base spare held fuel t [c0, c1, c2, c3] = some (d, p) := by simpa [Value.cells] using hf
  obtain ⟨y0, y1, y2, y3, n, hx, h0, h1, h2, h3⟩ := trod_array4 hu hce hf'
  obtain ⟨a0, e0, rfl, w0⟩ := DataW.trod_int hue h0
  obtain ⟨a1, e1, rfl, w1⟩ := DataW.trod_int hue h1
  obtain ⟨a2, e2, rfl, w2⟩ := DataW.trod_int hue h2
  obtain ⟨a3, e3, rfl, w3⟩ := DataW.trod_int hue h3
  simp only [List.cons.injEq, and_true] at e0 e1 e2 e3
  subst e0 e1 e2 e3
  simp only [Prod.mk.injEq] at hx
  exact ⟨a0, a1, a2, a3, rfl, hx.1, by simpa using hx.2, w0, w1, w2, w3⟩

theorem shut_w4 {t e : TypeId} (hu : P.underlying t = some (.array 4 e)) (hue : P.underlying e = some (.int .u64)) (hC : P.cellsOf t = 4) (hce : P.cellsOf e = 1) {a0 a1 a2 a3 : Int}
    (w0 : (Lit.int .u64 a0).wf = true) (w1 : (Lit.int .u64 a1).wf = true) (w2 : (Lit.int .u64 a2).wf = true) (w3 : (Lit.int .u64 a3).wf = true) :
    DataW.Trod enc P w base spare held t (.agg #[.int .u64 a0, .int .u64 a1, .int .u64 a2, .int .u64 a3]) (.agg [.lit (.int .u64 a0), .lit (.int .u64 a1), .lit (.int .u64 a2), .lit (.int .u64 a3)]) [] := by
  refine ⟨2, ?_⟩
  have r4 : List.range 4 = [0, 1, 2, 3] := rfl
  have one : ∀ a : Int, (Lit.int .u64 a).wf = true → DataW.trod enc P w base spare held 1 e [.int .u64 a] = some (.lit (.int .u64 a), []) := fun a ha => by
    simp [DataW.trod, hue, ha]
  simp only [Value.cells]
  unfold DataW.trod
  simp [hu, hC, hce, r4, one a0 w0, one a1 w1, one a2 w2, one a3 w3]
end

theorem tidy_frozen {w w' : World} (h : Tidy w w') (a : Addr) : w'.frozen? a = w.frozen? a := by
  unfold World.frozen?
  by_cases h1 : a.block < w.heap.size
  · rw [h.1.block _ h1]
  · rw [Array.getElem?_eq_none (by omega : w.heap.size ≤ a.block)]
    by_cases h2 : a.block < w'.heap.size
    · have h3 := h.2 a.block (by omega) h2
      unfold iced at h3
      split
      · rename_i c e lo hi hc
        have := h3 _ _ _ hc
        cases this
        simp
      · rfl
    · rw [Array.getElem?_eq_none (by omega : w'.heap.size ≤ a.block)]
theorem u64_bounds {n : Int} (h : (Lit.int .u64 n).wf = true) : 0 ≤ n ∧ n < 18446744073709551616 := by
  simp [Lit.wf, IntKind.min, IntKind.max, IntKind.signed, IntKind.bits] at h
  omega
theorem i64_bounds {n : Int} (h : (Lit.int .i64 n).wf = true) : -9223372036854775808 ≤ n ∧ n ≤ 9223372036854775807 := by
  simp [Lit.wf, IntKind.min, IntKind.max, IntKind.signed, IntKind.bits] at h
  omega
end Go.KRun
