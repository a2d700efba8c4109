/-
  The document's To with what is answered told ahead.
-/
import Derived.Test.YteglhjkpcljpmaaG30
import Derived.Test.YteglhjkpcljpmaaG25
import Derived.Test.YteglhjkpcljpmaaG27
import Derived.Test.YteglhjkpcljpmaaG29
import Derived.Test.YteglhjkpcljpmaaG09
import Derived.Test.YteglhjkpcljpmaaG13
import Derived.Test.YteglhjkpcljpmaaG12
namespace Go.Proofs.Yteglhjkpcljpmaa
open Go.KRun Go.Nt Go.Wd Go.Pt Go.Rn
set_option maxRecDepth 100000

def gToT : AnsH := fun vals h s =>
  match vals, s with
  | [.agg cs, .int .i64 N, .int .i64 M], .inr (.inr (.inr (.inl d))) :: .inr (.inr (.inr (.inl e))) :: .inr (.inl V) :: s' =>
    match cs.toList with
    | [.bool neg, .int .i64 E, .slice (some ⟨b, o, none⟩) n c] =>
      match d with
      | true => some (.tuple #[sOf h.n V.toNat, .bool e], h.push (wU (d16 V.toNat)) tU, s', [(decide (toQ M neg (vO h (some ⟨b, o, none⟩) n) E N = V.toNat), true), (toL (vO h (some ⟨b, o, none⟩) n) E N, e), (rowTo M neg (vO h (some ⟨b, o, none⟩) n) n E N, true), (okTo h (some ⟨b, o, none⟩) n c E N, true)])
      | false => some (.tuple #[nilS, .bool e], h, s', [(toL (vO h (some ⟨b, o, none⟩) n) E N, e), (rowTo M neg (vO h (some ⟨b, o, none⟩) n) n E N, false), (okTo h (some ⟨b, o, none⟩) n c E N, true)])
    | _ => none
  | _, _ => none
theorem gToT_ok : AnsHOk 22 gToT := by
  intro vals h s v h' s' lg hg hl
  unfold gToT at hg
  split at hg
  · rename_i cs N M d e V s2
    split at hg
    · rename_i neg E b o n c hcs
      split at hg
      · cases hg
        obtain ⟨l1, l2⟩ := log_tlT hl
        have l1 := of_decide_eq_true l1
        refine gTo_ok _ h [cmp true, cmp e] _ _ [] _ ?_ l2
        simp only [gTo, hcs, l1]
      · cases hg
        refine gTo_ok _ h [cmp false, cmp e] _ _ [] _ ?_ hl
        simp only [gTo, hcs]
    · cases hg
  · cases hg
end Go.Proofs.Yteglhjkpcljpmaa

/-
  The document's Pattern (tillerref04), as a contract.
-/
namespace Go.Proofs.Yteglhjkpcljpmaa
open Go.KRun Go.Nt Go.Wd Go.Rn Go.Pt
set_option maxRecDepth 100000
set_option linter.unusedVariables false

def bPt (p : Int) : List Value × TypeId := ([.bool (sgn p), .int .i64 (cl p), .int .i64 (xp p), .int .u64 (sg p)], 80)
def hcPt : Hc := altH 28 gUof hcN
theorem hcPt_ok : HcOk hcPt := altH_ok Try.func28 rfl gUof_ok hcN_ok
def conPt : Con := alt 40 (gU vT) conN
theorem conPt_ok : ConOk conPt := alt_ok Try.func40 rfl ref_ok conN_ok
theorem pt_body : Try.f20.body = some (cBody Try.f20) := by kernel_rfl
theorem pt_go (p : Int) : GoesT (evC (tabH Try.prog extY conPt hcPt) 200 false (cBody Try.f20) ([.int .u64 p] ++ List.replicate 13 undef, ⟨0, []⟩, []) ⟨[], [], []⟩) 3 11 (some none) [.int .u64 p, undef, .pointer (some ⟨0, 0, none⟩)] ⟨3, [(wU (d16 (sg p).toNat), tU), ([.bool (sgn p), .int .i64 (cl p), .int .i64 (xp p), .int .u64 (sg p)], 80), bOf (sgn p) (xp p) (sOf 2 (sg p).toNat)]⟩ [(decide (0 ≤ sg p ∧ sg p < 18446744073709551616), true), (decide (U p), true)] := ⟨by kernel_rfl, by kernel_rfl, by kernel_rfl⟩
def gPt : AnsH := fun vals h s =>
  match vals with
  | [.int .u64 p] => some (vRN (sgn p) (xp p) (sOf h.n (sg p).toNat), h.push (wU (d16 (sg p).toNat)) tU, s, [(decide (U p), true)])
  | _ => none
theorem gPt_ok : AnsHOk 20 gPt := by
  intro vals h s v h' s' lg hg hl m B w E hv
  unfold gPt at hg
  split at hg
  · rename_i p
    cases hg
    have q := hl _ (List.mem_singleton.2 rfl)
    have hs := sg_lt p
    have hr : RunsW (tabH Try.prog extY conPt hcPt) (cBody Try.f20) ([.int .u64 p] ++ List.replicate 13 undef, ⟨0, []⟩, []) fun e z => (e = none ∨ e = some none) ∧ ∃ k, resS Try.prog Try.f20 z.1 z.2.1 = some (vRN (sgn p) (xp p) (sOf k (sg p).toNat)) ∧ ∃ r, z.2.1.blk? k = some (wU (d16 (sg p).toNat) ++ r, tU) := by
      refine (goesT_runsW (tabH_ok conPt_ok hcPt_ok) (pt_go p) (okCons (decide_eq_true ⟨hs.1, by omega⟩) (okL1 q))).mono fun e z he => ?_
      obtain ⟨rfl, ⟨g, e1⟩, e2⟩ := he
      exact ⟨.inr rfl, 2, by rw [e1, e2]; rfl, [], by rw [e2, List.append_nil]; rfl⟩
    have := row_calls2 (T := tabH Try.prog extY conPt hcPt) Try.func20 pt_body (h0 := ⟨0, []⟩) ⟨rfl, fun b x hx => by have : b < 0 := Hp.blk_lt hx; omega⟩ (vals := [.int .u64 p]) (fun v hv => by rw [List.mem_singleton.1 hv]; rfl) (v := fun k => vRN (sgn p) (xp p) (sOf k (sg p).toNat)) (wU_lt _) (by kernel_rfl) hr (fun k => by simp [oc, oc2, oc1, sOf, sl, vRN]) E (s := fun i => i) (fun i x hx _ => by have : i < 0 := Hp.blk_lt hx; omega) (fun k => by simp [rn, rn2, rn1, sOf, sl, vRN])
    exact this
  · cases hg
end Go.Proofs.Yteglhjkpcljpmaa

/-
  The document's Round (tillerref04): its pieces.
-/
namespace Go.Proofs.Yteglhjkpcljpmaa
open Go.KRun Go.Nt Go.Wd Go.Rn
set_option maxRecDepth 100000
set_option linter.unusedVariables false

/-! ### over, signed -/
def gOv : Ans := fun vals s =>
  match vals with
  | [.bool n, .int .i64 m] => some (.int .u64 (bey m n), s, [])
  | _ => none
theorem ov2 (n : Bool) (m : Int) : Fits (reckon (tabOf Try.prog extY conN true) 300 57 [.bool n, .int .i64 m] [cmp true]) (.int .u64 9218868437227405311) [(m == 2, true)] := ⟨by kernel_rfl, by kernel_rfl, by kernel_rfl, by kernel_rfl⟩
def ovV (b : Bool) : Value := match b with | true => .int .u64 9218868437227405311 | false => .int .u64 9218868437227405312
theorem ov3 (n : Bool) (m : Int) : Fits (reckon (tabOf Try.prog extY conN true) 300 57 [.bool n, .int .i64 m] [cmp false, cmp true, cmp false]) (ovV n) (match n with | true => [(m == 3, true), (m == 2, false)] | false => [(m == 4, false), (m == 3, true), (m == 2, false)]) := by
  cases n <;> exact ⟨by kernel_rfl, by kernel_rfl, by kernel_rfl, by kernel_rfl⟩
theorem ov4 (n : Bool) (m : Int) : Fits (reckon (tabOf Try.prog extY conN true) 300 57 [.bool n, .int .i64 m] [cmp false, cmp false, cmp true]) (ovV (!n)) [(m == 4, true), (m == 3, false), (m == 2, false)] := by
  cases n <;> exact ⟨by kernel_rfl, by kernel_rfl, by kernel_rfl, by kernel_rfl⟩
theorem ov0 (n : Bool) (m : Int) : Fits (reckon (tabOf Try.prog extY conN true) 300 57 [.bool n, .int .i64 m] [cmp false, cmp false, cmp false]) (.int .u64 9218868437227405312) [(m == 4, false), (m == 3, false), (m == 2, false)] := by
  cases n <;> exact ⟨by kernel_rfl, by kernel_rfl, by kernel_rfl, by kernel_rfl⟩
theorem gOv_ok : AnsOk 57 gOv := by
  intro vals s v s' lg h hl w
  unfold gOv at h
  split at h
  · rename_i n m
    cases h
    have hv : ([.bool n, .int .i64 m].all (lt 0)) = true := rfl
    by_cases h2 : m = 2
    · have e : bey m n = 9218868437227405311 := by rw [h2]; cases n <;> rfl
      rw [e]
      exact fits_calls (tabY_ok conN_ok) (ov2 n m) (okL1 (by rw [h2]; rfl)) hv (by rfl) w
    · have b2 : (m == 2) = false := by simp [h2]
      by_cases h3 : m = 3
      · have e : Value.int .u64 (bey m n) = ovV n := by rw [h3]; cases n <;> rfl
        rw [e]
        cases n
        · exact fits_calls (tabY_ok conN_ok) (ov3 false m) (okCons (by rw [h3]; rfl) (okCons (by rw [h3]; rfl) (okL1 b2))) hv (by rfl) w
        · exact fits_calls (tabY_ok conN_ok) (ov3 true m) (okCons (by rw [h3]; rfl) (okL1 b2)) hv (by rfl) w
      · have b3 : (m == 3) = false := by simp [h3]
        by_cases h4 : m = 4
        · have e : Value.int .u64 (bey m n) = ovV (!n) := by rw [h4]; cases n <;> rfl
          rw [e]
          exact fits_calls (tabY_ok conN_ok) (ov4 n m) (okCons (by rw [h4]; rfl) (okCons b3 (okL1 b2))) hv (by cases n <;> rfl) w
        · have b4 : (m == 4) = false := by simp [h4]
          have e : bey m n = 9218868437227405312 := by
            unfold bey upR
            rw [if_neg h2, if_neg h3, if_neg h4]
            split <;> first | omega | (simp; done)
          rw [e]
          exact fits_calls (tabY_ok conN_ok) (ov0 n m) (okCons b4 (okCons b3 (okL1 b2))) hv (by rfl) w
  · cases h
def sgV (n : Bool) (p : Int) : Int := match n with | true => IntKind.u64.wrap (p + 9223372036854775808) | false => p
theorem sg_fits (n : Bool) (p : Int) : Fits (reckon (tabOf Try.prog extY conN true) 300 56 [.int .u64 p, .bool n] []) (.int .u64 (sgV n p)) [] := by
  cases n <;> exact ⟨by kernel_rfl, by kernel_rfl, by kernel_rfl, by kernel_rfl⟩
def gSg : Ans := fun vals s =>
  match vals with
  | [.int .u64 p, .bool n] => some (.int .u64 (sS n p), s, [(decide (0 ≤ p ∧ p ≤ 9218868437227405312), true)])
  | _ => none
theorem gSg_ok : AnsOk 56 gSg := by
  intro vals s v s' lg h hl w
  unfold gSg at h
  split at h
  · rename_i p n
    cases h
    have hp := of_decide_eq_true (hl _ (List.mem_singleton.2 rfl))
    have e : sS n p = sgV n p := by
      cases n
      · rfl
      · simp only [sS, sgV, if_true]
        rw [Go.Pt.wrapU' ⟨by omega, by omega⟩]
        omega
    rw [e]
    exact fits_calls (tabY_ok conN_ok) (sg_fits n p) okNl (by rfl) (by rfl) w
  · cases h
def conQ : Con := alt 57 gOv (alt 56 gSg conN)
theorem conQ_ok : ConOk conQ := alt_ok Try.func57 rfl gOv_ok (alt_ok Try.func56 rfl gSg_ok conN_ok)
def hcQ : Hc := altH 22 gTo hcW
theorem hcQ_ok : HcOk hcQ := altH_ok Try.func22 rfl gTo_ok hcW_ok

/-! ### pieces -/
theorem ro_body : Try.f27.body = some (cBody Try.f27) := by kernel_rfl
def rS1 (F : Func) : List Code := [cFst (tC F 0), cFst (tC F 1)]
def rS2 (F : Func) : List Code := [cFst (tC F 2), cFst (tC F 3), cFst (tC F 4), cFst (tC F 5)]
def rS3 (F : Func) : List Code := [cFst (tC F 6), cFst (tC F 7), cFst (tC F 8), cFst (tC F 9)]
theorem ro_body4 : Try.f27.body = some (seqs (rS1 Try.f27) (seqs (rS2 Try.f27) (seqs (rS3 Try.f27) (tC Try.f27 10)))) := by kernel_rfl
theorem ro_body2 : Try.f27.body = some (seqs (rS1 Try.f27) (tC Try.f27 2)) := by kernel_rfl
theorem ro_m1 (neg : Bool) (E M : Int) (o n c : Nat) (l : List Value) : GoesT (evL (tabH Try.prog extY conQ hcQ) 200 (rS1 Try.f27) ([vRN neg E (sl 0 o n c), .int .i64 M] ++ List.replicate 107 undef, ⟨1, [(l, tR)]⟩, [cmp true]) ⟨[], [], []⟩) 6 103 none [vRN neg E (sl 0 o n c), .int .i64 0, .pointer (some ⟨1, 0, none⟩), undef, .int .u64 0, .int .i64 0] (hX neg E o n c l) [(decide (M < 0), true)] := ⟨by kernel_rfl, by kernel_rfl, by kernel_rfl⟩
theorem ro_m2 (neg : Bool) (E M : Int) (o n c : Nat) (l : List Value) : GoesT (evL (tabH Try.prog extY conQ hcQ) 200 (rS1 Try.f27) ([vRN neg E (sl 0 o n c), .int .i64 M] ++ List.replicate 107 undef, ⟨1, [(l, tR)]⟩, [cmp false, cmp true]) ⟨[], [], []⟩) 6 103 none [vRN neg E (sl 0 o n c), .int .i64 0, .pointer (some ⟨1, 0, none⟩), undef, .int .u64 0, .int .i64 0] (hX neg E o n c l) [(decide (M > 4), true), (decide (M < 0), false)] := ⟨by kernel_rfl, by kernel_rfl, by kernel_rfl⟩
theorem ro_m3 (neg : Bool) (E M : Int) (o n c : Nat) (l : List Value) : GoesT (evL (tabH Try.prog extY conQ hcQ) 200 (rS1 Try.f27) ([vRN neg E (sl 0 o n c), .int .i64 M] ++ List.replicate 107 undef, ⟨1, [(l, tR)]⟩, [cmp false, cmp false]) ⟨[], [], []⟩) 6 103 none [vRN neg E (sl 0 o n c), .int .i64 M, .pointer (some ⟨1, 0, none⟩), undef, .int .u64 0, .int .i64 0] (hX neg E o n c l) [(decide (M > 4), false), (decide (M < 0), false)] := ⟨by kernel_rfl, by kernel_rfl, by kernel_rfl⟩
def sumI (x y : Int) : Int := IntKind.i64.wrap (x + y)
def okP (p : Int) : Bool × Bool := (decide (0 ≤ p ∧ p ≤ 9218868437227405312), true)
theorem ro_zero (neg : Bool) (E m : Int) (o n c : Nat) (l : List Value) (g : Nat → Value) : GoesT (evC (tabH Try.prog extY conQ hcQ) 200 false (tC Try.f27 2) ([vRN neg E (sl 0 o n c), .int .i64 m, .pointer (some ⟨1, 0, none⟩), undef, .int .u64 0, .int .i64 0] ++ tl 103 g, (hX neg E o n c l), [cmp true]) ⟨[], [], []⟩) 6 103 (some none) [vRN neg E (sl 0 o n c), .int .i64 m, .pointer (some ⟨1, 0, none⟩), undef, .int .u64 (sS neg 0), .int .i64 0] (hX neg E o n c l) [okP 0, ((n : Int) == 0, true)] := ⟨by kernel_rfl, by kernel_rfl, by kernel_rfl⟩
theorem ro_big (neg : Bool) (E m : Int) (o n c : Nat) (l : List Value) (g : Nat → Value) : GoesT (evC (tabH Try.prog extY conQ hcQ) 200 false (tC Try.f27 2) ([vRN neg E (sl 0 o n c), .int .i64 m, .pointer (some ⟨1, 0, none⟩), undef, .int .u64 0, .int .i64 0] ++ tl 103 g, (hX neg E o n c l), [cmp false, cmp true]) ⟨[], [], []⟩) 6 103 (some none) [vRN neg E (sl 0 o n c), .int .i64 m, .pointer (some ⟨1, 0, none⟩), undef, .int .u64 (sS neg (bey m neg)), .int .i64 20] (hX neg E o n c l) [okP (bey m neg), (decide ((sumI E ((bl (vO (hX neg E o n c l) (aX o) n) : Nat) : Int)) > 1100), true), (okLen (hX neg E o n c l) (aX o) n c, true), ((n : Int) == 0, false)] := ⟨by kernel_rfl, by kernel_rfl, by kernel_rfl⟩
theorem ro_mid (neg : Bool) (E m : Int) (o n c : Nat) (l : List Value) (g : Nat → Value) : GoesT (evL (tabH Try.prog extY conQ hcQ) 200 (rS2 Try.f27) ([vRN neg E (sl 0 o n c), .int .i64 m, .pointer (some ⟨1, 0, none⟩), undef, .int .u64 0, .int .i64 0] ++ tl 103 g, (hX neg E o n c l), [cmp false, cmp false, cmp false]) ⟨[], [], []⟩) 7 102 none [vRN neg E (sl 0 o n c), .int .i64 m, .pointer (some ⟨1, 0, none⟩), undef, .int .u64 0, .int .i64 0, .int .i64 (sumI E ((bl (vO (hX neg E o n c l) (aX o) n) : Nat) : Int))] (hX neg E o n c l) [(decide ((sumI E ((bl (vO (hX neg E o n c l) (aX o) n) : Nat) : Int)) < -1200), false), (decide ((sumI E ((bl (vO (hX neg E o n c l) (aX o) n) : Nat) : Int)) > 1100), false), (okLen (hX neg E o n c l) (aX o) n c, true), ((n : Int) == 0, false)] := ⟨by kernel_rfl, by kernel_rfl, by kernel_rfl⟩
def hLo (neg : Bool) (l : List Value) : Hp := ⟨3, [(wU (d16 1), tU), bOf neg (-1300) (sOf 2 1), (l, tR)]⟩
theorem ro_low (neg : Bool) (E m : Int) (o n c : Nat) (l : List Value) (g : Nat → Value) : GoesT (evL (tabH Try.prog extY conQ hcQ) 200 (rS2 Try.f27) ([vRN neg E (sl 0 o n c), .int .i64 m, .pointer (some ⟨1, 0, none⟩), undef, .int .u64 0, .int .i64 0] ++ tl 103 g, (hX neg E o n c l), [cmp false, cmp false, cmp true]) ⟨[], [], []⟩) 7 102 none [vRN neg E (sl 0 o n c), .int .i64 m, .pointer (some ⟨1, 0, none⟩), undef, .int .u64 0, .int .i64 0, .int .i64 (-1299)] (hLo neg l) [okOne1, okOne1, (decide ((sumI E ((bl (vO (hX neg E o n c l) (aX o) n) : Nat) : Int)) < -1200), true), (decide ((sumI E ((bl (vO (hX neg E o n c l) (aX o) n) : Nat) : Int)) > 1100), false), (okLen (hX neg E o n c l) (aX o) n c, true), ((n : Int) == 0, false)] := ⟨by kernel_rfl, by kernel_rfl, by kernel_rfl⟩
end Go.Proofs.Yteglhjkpcljpmaa
