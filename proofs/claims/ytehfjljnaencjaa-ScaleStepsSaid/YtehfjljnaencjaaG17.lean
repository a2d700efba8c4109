/-
  What is known of wide, for sums; what is known of layer 5's helpers: fits, top, inUnits, together, apart.
-/
import Derived.Test.YtehfjljnaencjaaG09
import Derived.Test.YtehfjljnaencjaaG12
import Derived.Test.YtehfjljnaencjaaG13
namespace Go.Proofs.Ytehfjljnaencjaa
open Go.KRun Go.Wd Go.Pt Go.Rn
set_option maxRecDepth 100000

def conWs : Con := alt 69 (g1n (plain1n shlV4)) (alt 81 (g1n (plain1n shrV4)) (alt 32 (g1 lenV4) (alt 82 (g2 (plain2 addV4)) (alt 83 (g2 (plain2 subV4)) (alt 67 (g2 cmpN) conN)))))
theorem conWs_ok : ConOk conWs := alt_ok Try.func69 rfl (plain1n_ok shl_calls) (alt_ok Try.func81 rfl (plain1n_ok shr_calls) (alt_ok Try.func32 rfl (g1_ok wlen_calls) (alt_ok Try.func82 rfl (plain2_ok add_calls) (alt_ok Try.func83 rfl (plain2_ok sub_calls) (alt_ok Try.func67 rfl cmpN_ok conN_ok)))))

/-! ### fits -/
def lL (x : W4) (d : Bool) : Bool × Bool := (decide (lenI x ≤ 128), d)
def lO (x : W4) : Bool × Bool := (decide x.ok, true)
theorem ft1 (n b : Bool) (x : W4) (ex : Int) : Fits (reckon (tabOf Try.prog extY conWs true) 300 63 [vN n ex x b] [cmp false]) (.bool false) [lL x false, lO x] := ⟨by kernel_rfl, by kernel_rfl, by kernel_rfl, by kernel_rfl⟩
theorem ft2 (n : Bool) (x : W4) (ex : Int) : Fits (reckon (tabOf Try.prog extY conWs true) 300 63 [vN n ex x true] [cmp true]) (.bool false) [lL x true, lO x] := ⟨by kernel_rfl, by kernel_rfl, by kernel_rfl, by kernel_rfl⟩
theorem ft3 (n : Bool) (x : W4) (ex : Int) : Fits (reckon (tabOf Try.prog extY conWs true) 300 63 [vN n ex x false] [cmp true, cmp false]) (.bool false) [(decide (-100000 ≤ ex), false), lL x true, lO x] := ⟨by kernel_rfl, by kernel_rfl, by kernel_rfl, by kernel_rfl⟩
theorem ft4 (n : Bool) (x : W4) (ex : Int) : Fits (reckon (tabOf Try.prog extY conWs true) 300 63 [vN n ex x false] [cmp true, cmp true]) (.bool (decide (ex ≤ 100000))) [(decide (-100000 ≤ ex), true), lL x true, lO x] := ⟨by kernel_rfl, by kernel_rfl, by kernel_rfl, by kernel_rfl⟩
def mayB (ex : Int) (x : W4) (b : Bool) : Bool := decide (lenI x ≤ 128) && !b && decide (-100000 ≤ ex) && decide (ex ≤ 100000)
theorem fits5_calls (n b : Bool) (x : W4) (ex : Int) (hx : x.ok) (w : World) : Calls Try.prog 63 #[vN n ex x b] w fun r w' => r = .returned (.bool (mayB ex x b)) ∧ Tidy w w' := by
  have hv : ([vN n ex x b].all (lt 0)) = true := rfl
  have kx : decide x.ok = true := decide_eq_true hx
  unfold mayB
  by_cases hl : lenI x ≤ 128
  · have kl : decide (lenI x ≤ 128) = true := decide_eq_true hl
    rw [kl]
    cases b with
    | true => exact fits_calls (tabY_ok conWs_ok) (ft2 n x ex) (okCons kl (okL1 kx)) hv (by rfl) w
    | false =>
      by_cases he : -100000 ≤ ex
      · have ke : decide (-100000 ≤ ex) = true := decide_eq_true he
        rw [ke]
        exact fits_calls (tabY_ok conWs_ok) (ft4 n x ex) (okCons ke (okCons kl (okL1 kx))) hv (by rfl) w
      · have ke : decide (-100000 ≤ ex) = false := decide_eq_false he
        rw [ke]
        exact fits_calls (tabY_ok conWs_ok) (ft3 n x ex) (okCons ke (okCons kl (okL1 kx))) hv (by rfl) w
  · have kl : decide (lenI x ≤ 128) = false := decide_eq_false hl
    rw [kl]
    exact fits_calls (tabY_ok conWs_ok) (ft1 n b x ex) (okCons kl (okL1 kx)) hv (by rfl) w
def gFt : Ans := fun vals s =>
  match vals with
  | [v] =>
    match n7 v with
    | some (_, ex, x, b) => some (.bool (pickC (mayB ex x b) s).1, (pickC (mayB ex x b) s).2.1, (pickC (mayB ex x b) s).2.2 ++ [(decide x.ok, true)])
    | none => none
  | _ => none
theorem gFt_ok : AnsOk 63 gFt := by
  intro vals s v s' lg h hl w
  unfold gFt at h
  split at h
  · split at h
    · rename_i n ex x b hn
      cases h
      rw [n7_spec hn, pickC_ok (fun p hp => hl p (List.mem_append_left _ hp))]
      exact fits5_calls n b x ex (of_decide_eq_true (hl _ (List.mem_append_right _ (List.mem_singleton.2 rfl)))) w
    · cases h
  · cases h

/-! ### top -/
theorem tp1 (n b : Bool) (x : W4) (ex : Int) : Fits (reckon (tabOf Try.prog extY conWs true) 300 64 [vN n ex x b] [sam true]) (.int .i64 (-100000)) [(eqW x ⟨0, 0, 0, 0⟩, true)] := ⟨by kernel_rfl, by kernel_rfl, by kernel_rfl, by kernel_rfl⟩
theorem tp2 (n b : Bool) (x : W4) (ex : Int) : Fits (reckon (tabOf Try.prog extY conWs true) 300 64 [vN n ex x b] [sam false]) (.int .i64 (IntKind.i64.wrap (ex + lenI x))) [lO x, (eqW x ⟨0, 0, 0, 0⟩, false)] := ⟨by kernel_rfl, by kernel_rfl, by kernel_rfl, by kernel_rfl⟩
def okTp (x : W4) (ex : Int) : Bool := decide (x.ok ∧ -200000 ≤ ex ∧ ex ≤ 200000)
theorem nat_zero {x : W4} (h : x.ok) : x.nat = 0 ↔ eqW x ⟨0, 0, 0, 0⟩ = true := by
  rw [eqW_iff]
  constructor
  · intro h0; rw [← ofN_self h, h0, ofN_zero]
  · intro h0; rw [h0]; rfl
theorem top_calls (n b : Bool) (x : W4) (ex : Int) (h : x.ok ∧ -200000 ≤ ex ∧ ex ≤ 200000) (w : World) : Calls Try.prog 64 #[vN n ex x b] w fun r w' => r = .returned (.int .i64 (topN ex x.nat)) ∧ Tidy w w' := by
  have hv : ([vN n ex x b].all (lt 0)) = true := rfl
  unfold topN
  cases he : eqW x ⟨0, 0, 0, 0⟩ with
  | true =>
    rw [if_pos ((nat_zero h.1).2 he)]
    exact fits_calls (tabY_ok conWs_ok) (tp1 n b x ex) (okL1 he) hv (by rfl) w
  | false =>
    have hz : ¬ x.nat = 0 := fun h0 => by rw [(nat_zero h.1).1 h0] at he; cases he
    have hl := len256 h.1
    have e : IntKind.i64.wrap (ex + lenI x) = ex + (bitLen x.nat : Nat) := by rw [lenI_nat, wrapI' ⟨by omega, by omega⟩]
    rw [if_neg hz, ← e]
    exact fits_calls (tabY_ok conWs_ok) (tp2 n b x ex) (okCons (decide_eq_true h.1) (okL1 he)) hv (by rfl) w
def gTp : Ans := fun vals s =>
  match vals with
  | [v] =>
    match n7 v with
    | some (_, ex, x, _) => some (.int .i64 (topN ex x.nat), s, [(okTp x ex, true)])
    | none => none
  | _ => none
theorem gTp_ok : AnsOk 64 gTp := by
  intro vals s v s' lg h hl w
  unfold gTp at h
  split at h
  · split at h
    · rename_i n ex x b hn
      cases h
      rw [n7_spec hn]
      exact top_calls n b x ex (of_decide_eq_true (hl _ (List.mem_singleton.2 rfl))) w
    · cases h
  · cases h

/-! ### inUnits -/
def lW' (x : W4) (n : Int) : Bool × Bool := (decide (x.ok ∧ -9223372036854775808 ≤ n ∧ n ≤ 9223372036854775807), true)
theorem iu1 (n b : Bool) (x : W4) (ex u : Int) : Fits (reckon (tabOf Try.prog extY conWs true) 300 65 [vN n ex x b, .int .i64 u] [cmp true]) (vN n u (shlW x (IntKind.i64.wrap (ex - u))) false) [lW' x (IntKind.i64.wrap (ex - u)), (decide (ex ≥ u), true)] := ⟨by kernel_rfl, by kernel_rfl, by kernel_rfl, by kernel_rfl⟩
theorem iu2 (n b : Bool) (x : W4) (ex u : Int) : Fits (reckon (tabOf Try.prog extY conWs true) 300 65 [vN n ex x b, .int .i64 u] [cmp false]) (vN n u (shrW x (IntKind.i64.wrap (u - ex))) (shrL x (IntKind.i64.wrap (u - ex)))) [lW' x (IntKind.i64.wrap (u - ex)), (decide (ex ≥ u), false)] := ⟨by kernel_rfl, by kernel_rfl, by kernel_rfl, by kernel_rfl⟩
def okIu (x : W4) (ex u : Int) : Bool := decide (x.ok ∧ -200000 ≤ ex ∧ ex ≤ 200000 ∧ -400000 ≤ u ∧ u ≤ 400000)
theorem iu_calls (n b : Bool) (x : W4) (ex u : Int) (h : x.ok ∧ -200000 ≤ ex ∧ ex ≤ 200000 ∧ -400000 ≤ u ∧ u ≤ 400000) (w : World) : Calls Try.prog 65 #[vN n ex x b, .int .i64 u] w fun r w' => r = .returned (vN n u (ofN (iuQ ex u x.nat)) (iuB ex u x.nat)) ∧ Tidy w w' := by
  have hv : ([vN n ex x b, .int .i64 u].all (lt 0)) = true := rfl
  unfold iuQ iuB
  by_cases hu : u ≤ ex
  · rw [if_pos hu, if_pos hu]
    have e : IntKind.i64.wrap (ex - u) = ex - u := wrapI' ⟨by omega, by omega⟩
    have hf := iu1 n b x ex u
    rw [e, shlW_nat h.1 (by omega)] at hf
    exact fits_calls (tabY_ok conWs_ok) hf (okCons (lok_ok h.1 (by omega) (by omega)) (okL1 (decide_eq_true hu))) hv (by rfl) w
  · rw [if_neg hu, if_neg hu]
    have e : IntKind.i64.wrap (u - ex) = u - ex := wrapI' ⟨by omega, by omega⟩
    have hf := iu2 n b x ex u
    rw [e, shrW_nat h.1 (by omega), shrL_nat h.1 (by omega)] at hf
    exact fits_calls (tabY_ok conWs_ok) hf (okCons (lok_ok h.1 (by omega) (by omega)) (okL1 (decide_eq_false hu))) hv (by rfl) w
def gIu : Ans := fun vals s =>
  match vals with
  | [v, .int .i64 u] =>
    match n7 v with
    | some (n, ex, x, _) => some (vN n u (ofN (iuQ ex u x.nat)) (iuB ex u x.nat), s, [(okIu x ex u, true)])
    | none => none
  | _ => none
theorem gIu_ok : AnsOk 65 gIu := by
  intro vals s v s' lg h hl w
  unfold gIu at h
  split at h
  · split at h
    · rename_i n ex x b hn
      cases h
      rw [n7_spec hn]
      exact iu_calls n b x ex _ (of_decide_eq_true (hl _ (List.mem_singleton.2 rfl))) w
    · cases h
  · cases h

/-! ### together -/
def lTwo (x y : W4) : Bool × Bool := (decide (x.ok ∧ y.ok), true)
theorem tg (n p a b : Bool) (x y : W4) (ex u : Int) : Fits (reckon (tabOf Try.prog extY conWs true) 300 66 [vN n ex x a, vN p u y b] []) (vN n ex (W4.of (x.val + y.val)) (a || b)) [lTwo x y] := by
  cases a <;> exact ⟨by kernel_rfl, by kernel_rfl, by kernel_rfl, by kernel_rfl⟩
theorem add_nat {x y : W4} (hx : x.ok) (hy : y.ok) : W4.of (x.val + y.val) = ofN (x.nat + y.nat) := by
  unfold ofN
  rw [W4.nat_val hx, W4.nat_val hy]
  congr 1
theorem sub_nat {x y : W4} (hx : x.ok) (hy : y.ok) (h : y.nat ≤ x.nat) : W4.of (x.val - y.val) = ofN (x.nat - y.nat) := by
  unfold ofN
  rw [W4.nat_val hx, W4.nat_val hy]
  congr 1
  omega
def gTg : Ans := fun vals s =>
  match vals with
  | [v, t] =>
    match n7 v with
    | some (n, ex, x, a) =>
      match n7 t with
      | some (_, _, y, b) => some (vN n ex (ofN (x.nat + y.nat)) (a || b), s, [(decide (x.ok ∧ y.ok), true)])
      | none => none
    | none => none
  | _ => none
theorem gTg_ok : AnsOk 66 gTg := by
  intro vals s v s' lg h hl w
  unfold gTg at h
  split at h
  · split at h
    · rename_i n ex x a hn
      split at h
      · rename_i p u y b hp
        cases h
        rw [n7_spec hn, n7_spec hp]
        obtain ⟨hx, hy⟩ := of_decide_eq_true (hl _ (List.mem_singleton.2 rfl))
        rw [← add_nat hx hy]
        exact fits_calls (tabY_ok conWs_ok) (tg n p a b x y ex u) (okL1 (decide_eq_true ⟨hx, hy⟩)) (by rfl) (by rfl) w
      · cases h
    · cases h
  · cases h

/-! ### apart -/
theorem ap1 (n p a : Bool) (x y : W4) (ex u : Int) : Fits (reckon (tabOf Try.prog extY conWs true) 300 68 [vN n ex x a, vN p u y false] []) (vN n ex (W4.of (x.val - y.val)) a) [lTwo x y] := ⟨by kernel_rfl, by kernel_rfl, by kernel_rfl, by kernel_rfl⟩
def sb4 (x y : W4) : W4 := ⟨(W4.of (x.val - y.val)).a, (W4.of (x.val - y.val)).b, (W4.of (x.val - y.val)).c, (W4.of (x.val - y.val)).d⟩
theorem sb4_eq (x y : W4) : sb4 x y = W4.of (x.val - y.val) := rfl
/-- where the region that draws its order ends -/
def apE (n p a : Bool) (x y : W4) (ex u : Int) : Lf := ([.agg { toList := [.bool n, .int .i64 ex, .int .u64 x.a, .int .u64 x.b, .int .u64 x.c, .int .u64 x.d, .bool a] }, .agg { toList := [.bool p, .int .i64 u, .int .u64 y.a, .int .u64 y.b, .int .u64 y.c, .int .u64 y.d, .bool true] }, .pointer (some { block := 0, off := 0 }), .pointer (some { block := 1, off := 0 }), .pointer (some { block := 2, off := 0 }), .tuple { toList := [.agg { toList := [.int .u64 (W4.of (x.val - y.val)).a, .int .u64 (W4.of (x.val - y.val)).b, .int .u64 (W4.of (x.val - y.val)).c, .int .u64 (W4.of (x.val - y.val)).d] }, .bool (decide (x.val < y.val))] }, .pointer (some { block := 0, off := 2 }), .agg { toList := [.int .u64 x.a, .int .u64 x.b, .int .u64 x.c, .int .u64 x.d] }, .pointer (some { block := 1, off := 2 }), .agg { toList := [.int .u64 y.a, .int .u64 y.b, .int .u64 y.c, .int .u64 y.d] }, .tuple { toList := [.agg { toList := [.int .u64 (W4.of (x.val - y.val)).a, .int .u64 (W4.of (x.val - y.val)).b, .int .u64 (W4.of (x.val - y.val)).c, .int .u64 (W4.of (x.val - y.val)).d] }, .bool (decide (x.val < y.val))] }, .agg { toList := [.int .u64 (W4.of (x.val - y.val)).a, .int .u64 (W4.of (x.val - y.val)).b, .int .u64 (W4.of (x.val - y.val)).c, .int .u64 (W4.of (x.val - y.val)).d] }, .bool (decide (x.val < y.val)), .pointer (some { block := 0, off := 2 }), .pointer (some { block := 1, off := 6 }), .bool true, .tuple { toList := [.agg { toList := [.int .u64 (W4.of ((sb4 x y).val - w1.val)).a, .int .u64 (W4.of ((sb4 x y).val - w1.val)).b, .int .u64 (W4.of ((sb4 x y).val - w1.val)).c, .int .u64 (W4.of ((sb4 x y).val - w1.val)).d] }, .bool (decide ((sb4 x y).val < w1.val))] }, .pointer (some { block := 0, off := 2 }), .agg { toList := [.int .u64 (W4.of (x.val - y.val)).a, .int .u64 (W4.of (x.val - y.val)).b, .int .u64 (W4.of (x.val - y.val)).c, .int .u64 (W4.of (x.val - y.val)).d] }, .agg { toList := [.int .u64 1, .int .u64 0, .int .u64 0, .int .u64 0] }, .tuple { toList := [.agg { toList := [.int .u64 (W4.of ((sb4 x y).val - w1.val)).a, .int .u64 (W4.of ((sb4 x y).val - w1.val)).b, .int .u64 (W4.of ((sb4 x y).val - w1.val)).c, .int .u64 (W4.of ((sb4 x y).val - w1.val)).d] }, .bool (decide ((sb4 x y).val < w1.val))] }, .agg { toList := [.int .u64 (W4.of ((sb4 x y).val - w1.val)).a, .int .u64 (W4.of ((sb4 x y).val - w1.val)).b, .int .u64 (W4.of ((sb4 x y).val - w1.val)).c, .int .u64 (W4.of ((sb4 x y).val - w1.val)).d] }, .bool (decide ((sb4 x y).val < w1.val)), .pointer (some { block := 0, off := 2 }), .tuple { toList := [] }, .tuple { toList := [] }], { n := 3, l := [([.bool false, .int .i64 0, .int .u64 0, .int .u64 0, .int .u64 0, .int .u64 0, .bool false], 41), ([.bool p, .int .i64 u, .int .u64 y.a, .int .u64 y.b, .int .u64 y.c, .int .u64 y.d, .bool true], 41), ([.bool n, .int .i64 ex, .int .u64 (W4.of ((sb4 x y).val - w1.val)).a, .int .u64 (W4.of ((sb4 x y).val - w1.val)).b, .int .u64 (W4.of ((sb4 x y).val - w1.val)).c, .int .u64 (W4.of ((sb4 x y).val - w1.val)).d, .bool a], 41)] }, [])
theorem ap2 (n p a : Bool) (x y : W4) (ex u : Int) : Fits (reckon (tabOf Try.prog extY conWs true) 300 68 [vN n ex x a, vN p u y true] []) (vN n ex (W4.of ((sb4 x y).val - w1.val)) true) [lTwo (sb4 x y) w1, lTwo (sb4 x y) w1, lTwo x y] :=
  ⟨by kernel_rfl, by kernel_rfl, Eq.trans (b := some [apE n p a x y ex u]) (by kernel_rfl) (by kernel_rfl), by kernel_rfl⟩
def apQ (p q : Nat) (b : Bool) : Nat := p - q - bN b
def gAp : Ans := fun vals s =>
  match vals with
  | [v, t] =>
    match n7 v with
    | some (n, ex, x, a) =>
      match n7 t with
      | some (_, _, y, b) => some (vN n ex (ofN (apQ x.nat y.nat b)) (a || b), s, [(decide (x.ok ∧ y.ok ∧ y.nat < x.nat), true)])
      | none => none
    | none => none
  | _ => none
theorem gAp_ok : AnsOk 68 gAp := by
  intro vals s v s' lg h hl w
  unfold gAp at h
  split at h
  · split at h
    · rename_i n ex x a hn
      split at h
      · rename_i p u y b hp
        cases h
        rw [n7_spec hn, n7_spec hp]
        obtain ⟨hx, hy, hlt⟩ := of_decide_eq_true (hl _ (List.mem_singleton.2 rfl))
        have hxl := W4.nat_lt hx
        have hw : w1.ok := by decide
        have h1 : w1.nat = 1 := by decide
        have e1 := sub_nat hx hy (by omega)
        have e2 : (ofN (x.nat - y.nat)).nat = x.nat - y.nat := ofN_nat (by omega)
        cases b with
        | false =>
          have e : ofN (apQ x.nat y.nat false) = W4.of (x.val - y.val) := by rw [e1]; rfl
          rw [e, Bool.or_false]
          exact fits_calls (tabY_ok conWs_ok) (ap1 n p a x y ex u) (okL1 (decide_eq_true ⟨hx, hy⟩)) (by rfl) (by rfl) w
        | true =>
          have e : ofN (apQ x.nat y.nat true) = W4.of ((sb4 x y).val - w1.val) := by
            rw [sb4_eq, e1, sub_nat (ofN_ok _) hw (by omega), e2, h1]
            rfl
          rw [e, Bool.or_true]
          exact fits_calls (tabY_ok conWs_ok) (ap2 n p a x y ex u) (okCons (decide_eq_true ⟨by rw [sb4_eq]; exact W4.ok_of _, hw⟩) (okCons (decide_eq_true ⟨by rw [sb4_eq]; exact W4.ok_of _, hw⟩) (okL1 (decide_eq_true ⟨hx, hy⟩)))) (by rfl) (by rfl) w
      · cases h
    · cases h
  · cases h
def conSu : Con := alt 63 gFt (alt 64 gTp (alt 65 gIu (alt 66 gTg (alt 68 gAp conWs))))
theorem conSu_ok : ConOk conSu := alt_ok Try.func63 rfl gFt_ok (alt_ok Try.func64 rfl gTp_ok (alt_ok Try.func65 rfl gIu_ok (alt_ok Try.func66 rfl gTg_ok (alt_ok Try.func68 rfl gAp_ok conWs_ok))))
end Go.Proofs.Ytehfjljnaencjaa

/-
  sums.Exact, as a call in every world.
-/
namespace Go.Proofs.Ytehfjljnaencjaa
open Go.KRun Go.Wd Go.Pt Go.Rn
set_option maxRecDepth 100000

def uE (Ex : Int) (X : W4) (Ey : Int) (Y : W4) : Int := IntKind.i64.wrap ((if topN Ey Y.nat > topN Ex X.nat then topN Ey Y.nat else topN Ex X.nat) - 254)
def eX (Ex : Int) (X : W4) (Ey : Int) (Y : W4) : W4 := ofN (iuQ Ex (uE Ex X Ey Y) X.nat)
def eY (Ex : Int) (X : W4) (Ey : Int) (Y : W4) : W4 := ofN (iuQ Ey (uE Ex X Ey Y) Y.nat)
def xbX (Ex : Int) (X : W4) (Ey : Int) (Y : W4) : Bool := iuB Ex (uE Ex X Ey Y) X.nat
def xbY (Ex : Int) (X : W4) (Ey : Int) (Y : W4) : Bool := iuB Ey (uE Ex X Ey Y) Y.nat
def lIu (X : W4) (Ex u : Int) : Bool × Bool := (okIu X Ex u, true)
def lEx (X Y : W4) (Ex Ey : Int) : Log := [lIu Y Ey (uE Ex X Ey Y), lIu X Ex (uE Ex X Ey Y), lIu Y Ey (uE Ex X Ey Y), lIu Y Ey (uE Ex X Ey Y), lIu X Ex (uE Ex X Ey Y), lIu Y Ey (uE Ex X Ey Y), lIu X Ex (uE Ex X Ey Y), lIu Y Ey (uE Ex X Ey Y), lIu Y Ey (uE Ex X Ey Y), lIu X Ex (uE Ex X Ey Y), lIu Y Ey (uE Ex X Ey Y), lIu Y Ey (uE Ex X Ey Y), lIu Y Ey (uE Ex X Ey Y), lIu Y Ey (uE Ex X Ey Y), lIu Y Ey (uE Ex X Ey Y), lIu X Ex (uE Ex X Ey Y), (okTp Y Ey, true), (okTp X Ex, true), (mayB Ey Y false, true), (decide Y.ok, true), (mayB Ex X false, true), (decide X.ok, true)]
theorem ex_sff (X Y : W4) (Ex Ey m : Int) : Fits (reckon (tabOf Try.prog extY conSu true) 300 42 [vN false Ex X false, vN false Ey Y false, .int .i64 m] [cmp true, cmp true]) (.tuple #[vN false (uE Ex X Ey Y) (ofN ((eX Ex X Ey Y).nat + (eY Ex X Ey Y).nat)) ((xbX Ex X Ey Y) || (xbY Ex X Ey Y)), .nilIface]) ((decide ((eX Ex X Ey Y).ok ∧ (eY Ex X Ey Y).ok), true) :: lEx X Y Ex Ey) := ⟨by kernel_rfl, by kernel_rfl, by kernel_rfl, by kernel_rfl⟩
theorem ex_gft (X Y : W4) (Ex Ey m : Int) : Fits (reckon (tabOf Try.prog extY conSu true) 300 42 [vN false Ex X false, vN true Ey Y false, .int .i64 m] [cmp true, cmp true, num 1]) (.tuple #[vN false (uE Ex X Ey Y) (ofN (apQ (eX Ex X Ey Y).nat (eY Ex X Ey Y).nat (xbY Ex X Ey Y))) ((xbX Ex X Ey Y) || (xbY Ex X Ey Y)), .nilIface]) ((decide ((eX Ex X Ey Y).ok ∧ (eY Ex X Ey Y).ok ∧ (eY Ex X Ey Y).nat < (eX Ex X Ey Y).nat), true) :: (decide ((eX Ex X Ey Y).ok ∧ (eY Ex X Ey Y).ok), true) :: (decide (cmpI (eX Ex X Ey Y) (eY Ex X Ey Y) = 1), true) :: lEx X Y Ex Ey) := ⟨by kernel_rfl, by kernel_rfl, by kernel_rfl, by kernel_rfl⟩
theorem ex_lft (X Y : W4) (Ex Ey m : Int) : Fits (reckon (tabOf Try.prog extY conSu true) 300 42 [vN false Ex X false, vN true Ey Y false, .int .i64 m] [cmp true, cmp true, num (-1)]) (.tuple #[vN true (uE Ex X Ey Y) (ofN (apQ (eY Ex X Ey Y).nat (eX Ex X Ey Y).nat (xbX Ex X Ey Y))) ((xbY Ex X Ey Y) || (xbX Ex X Ey Y)), .nilIface]) ((decide ((eY Ex X Ey Y).ok ∧ (eX Ex X Ey Y).ok ∧ (eX Ex X Ey Y).nat < (eY Ex X Ey Y).nat), true) :: (decide ((eX Ex X Ey Y).ok ∧ (eY Ex X Ey Y).ok), true) :: (decide (cmpI (eX Ex X Ey Y) (eY Ex X Ey Y) = -1), true) :: lEx X Y Ex Ey) := ⟨by kernel_rfl, by kernel_rfl, by kernel_rfl, by kernel_rfl⟩
theorem ex_zft (X Y : W4) (Ex Ey m : Int) : Fits (reckon (tabOf Try.prog extY conSu true) 300 42 [vN false Ex X false, vN true Ey Y false, .int .i64 m] [cmp true, cmp true, num 0]) (.tuple #[vN (m == 4) (uE Ex X Ey Y) ⟨0, 0, 0, 0⟩ false, .nilIface]) ((decide ((eX Ex X Ey Y).ok ∧ (eY Ex X Ey Y).ok), true) :: (decide (cmpI (eX Ex X Ey Y) (eY Ex X Ey Y) = 0), true) :: lEx X Y Ex Ey) := ⟨by kernel_rfl, by kernel_rfl, by kernel_rfl, by kernel_rfl⟩
theorem ex_gtf (X Y : W4) (Ex Ey m : Int) : Fits (reckon (tabOf Try.prog extY conSu true) 300 42 [vN true Ex X false, vN false Ey Y false, .int .i64 m] [cmp true, cmp true, num 1]) (.tuple #[vN true (uE Ex X Ey Y) (ofN (apQ (eX Ex X Ey Y).nat (eY Ex X Ey Y).nat (xbY Ex X Ey Y))) ((xbX Ex X Ey Y) || (xbY Ex X Ey Y)), .nilIface]) ((decide ((eX Ex X Ey Y).ok ∧ (eY Ex X Ey Y).ok ∧ (eY Ex X Ey Y).nat < (eX Ex X Ey Y).nat), true) :: (decide ((eX Ex X Ey Y).ok ∧ (eY Ex X Ey Y).ok), true) :: (decide (cmpI (eX Ex X Ey Y) (eY Ex X Ey Y) = 1), true) :: lEx X Y Ex Ey) := ⟨by kernel_rfl, by kernel_rfl, by kernel_rfl, by kernel_rfl⟩
theorem ex_ltf (X Y : W4) (Ex Ey m : Int) : Fits (reckon (tabOf Try.prog extY conSu true) 300 42 [vN true Ex X false, vN false Ey Y false, .int .i64 m] [cmp true, cmp true, num (-1)]) (.tuple #[vN false (uE Ex X Ey Y) (ofN (apQ (eY Ex X Ey Y).nat (eX Ex X Ey Y).nat (xbX Ex X Ey Y))) ((xbY Ex X Ey Y) || (xbX Ex X Ey Y)), .nilIface]) ((decide ((eY Ex X Ey Y).ok ∧ (eX Ex X Ey Y).ok ∧ (eX Ex X Ey Y).nat < (eY Ex X Ey Y).nat), true) :: (decide ((eX Ex X Ey Y).ok ∧ (eY Ex X Ey Y).ok), true) :: (decide (cmpI (eX Ex X Ey Y) (eY Ex X Ey Y) = -1), true) :: lEx X Y Ex Ey) := ⟨by kernel_rfl, by kernel_rfl, by kernel_rfl, by kernel_rfl⟩
theorem ex_ztf (X Y : W4) (Ex Ey m : Int) : Fits (reckon (tabOf Try.prog extY conSu true) 300 42 [vN true Ex X false, vN false Ey Y false, .int .i64 m] [cmp true, cmp true, num 0]) (.tuple #[vN (m == 4) (uE Ex X Ey Y) ⟨0, 0, 0, 0⟩ false, .nilIface]) ((decide ((eX Ex X Ey Y).ok ∧ (eY Ex X Ey Y).ok), true) :: (decide (cmpI (eX Ex X Ey Y) (eY Ex X Ey Y) = 0), true) :: lEx X Y Ex Ey) := ⟨by kernel_rfl, by kernel_rfl, by kernel_rfl, by kernel_rfl⟩
theorem ex_stt (X Y : W4) (Ex Ey m : Int) : Fits (reckon (tabOf Try.prog extY conSu true) 300 42 [vN true Ex X false, vN true Ey Y false, .int .i64 m] [cmp true, cmp true]) (.tuple #[vN true (uE Ex X Ey Y) (ofN ((eX Ex X Ey Y).nat + (eY Ex X Ey Y).nat)) ((xbX Ex X Ey Y) || (xbY Ex X Ey Y)), .nilIface]) ((decide ((eX Ex X Ey Y).ok ∧ (eY Ex X Ey Y).ok), true) :: lEx X Y Ex Ey) := ⟨by kernel_rfl, by kernel_rfl, by kernel_rfl, by kernel_rfl⟩

/-! ### its numbers -/
theorem may_iff {E : Int} {X : W4} (_h : X.ok) : mayB E X false = true ↔ May E X.nat := by
  have hl : lenI X ≤ 128 ↔ X.nat < 2 ^ 128 := by
    rw [lenI_nat]
    constructor
    · intro h1
      exact Nat.lt_of_lt_of_le (bitLen_spec X.nat).1 (Nat.pow_le_pow_right (by omega) (by omega))
    · intro h1
      have := len_le h1
      omega
  unfold mayB May
  simp only [Bool.and_eq_true, decide_eq_true_eq, Bool.not_false, and_true, hl]
  exact ⟨fun ⟨⟨a, b⟩, c⟩ => ⟨a, b, c⟩, fun ⟨a, b, c⟩ => ⟨⟨a, b⟩, c⟩⟩
theorem top_bd {E : Int} {X : Nat} (h : May E X) : -100000 ≤ topN E X ∧ topN E X ≤ 100128 := by
  obtain ⟨a, b, c⟩ := h
  have := len_le a
  unfold topN
  split <;> omega
theorem un_bd {Ex Ey : Int} {X Y : Nat} (hX : May Ex X) (hY : May Ey Y) : -100254 ≤ unN Ex X Ey Y ∧ unN Ex X Ey Y ≤ 100128 := by
  have h1 := top_bd hX
  have h2 := top_bd hY
  unfold unN
  omega
theorem uE_eq {Ex Ey : Int} {X Y : W4} (hX : May Ex X.nat) (hY : May Ey Y.nat) : uE Ex X Ey Y = unN Ex X.nat Ey Y.nat := by
  have h1 := top_bd hX
  have h2 := top_bd hY
  have e : (if topN Ey Y.nat > topN Ex X.nat then topN Ey Y.nat else topN Ex X.nat) = max (topN Ex X.nat) (topN Ey Y.nat) := by split <;> omega
  unfold uE unN
  rw [e, wrapI' ⟨by omega, by omega⟩]
theorem cmpI_of {x y : W4} (hx : x.ok) (hy : y.ok) : (y.nat < x.nat → cmpI x y = 1) ∧ (x.nat < y.nat → cmpI x y = -1) ∧ (x.nat = y.nat → cmpI x y = 0) := by
  have e1 := W4.nat_val hx
  have e2 := W4.nat_val hy
  unfold cmpI
  refine ⟨fun h => ?_, fun h => ?_, fun h => ?_⟩
  · rw [if_neg (by omega), if_neg (by omega)]
  · rw [if_pos (by omega)]
  · rw [if_neg (by omega), if_pos (by omega)]
def xuV (m : Int) (nx : Bool) (Ex : Int) (X : W4) (ny : Bool) (Ey : Int) (Y : W4) : Value := vN (xuN m nx Ex X.nat ny Ey Y.nat) (unN Ex X.nat Ey Y.nat) (ofN (xuQ nx Ex X.nat ny Ey Y.nat)) (xuB nx Ex X.nat ny Ey Y.nat)
theorem exact_calls (nx ny : Bool) (X Y : W4) (Ex Ey m : Int) (hX : X.ok) (hY : Y.ok) (mX : mayB Ex X false = true) (mY : mayB Ey Y false = true) (w : World) : Calls Try.prog 42 #[vN nx Ex X false, vN ny Ey Y false, .int .i64 m] w fun r w' => r = .returned (.tuple #[xuV m nx Ex X ny Ey Y, .nilIface]) ∧ Tidy w w' := by
  have dX := (may_iff hX).1 mX
  have dY := (may_iff hY).1 mY
  have eu := uE_eq dX dY
  have hu := un_bd dX dY
  have kx : decide X.ok = true := decide_eq_true hX
  have ky : decide Y.ok = true := decide_eq_true hY
  have tx : okTp X Ex = true := decide_eq_true ⟨hX, by have := dX.2; omega, by have := dX.2; omega⟩
  have ty : okTp Y Ey = true := decide_eq_true ⟨hY, by have := dY.2; omega, by have := dY.2; omega⟩
  have ix : okIu X Ex (uE Ex X Ey Y) = true := decide_eq_true ⟨hX, by have := dX.2; omega, by have := dX.2; omega, by omega, by omega⟩
  have iy : okIu Y Ey (uE Ex X Ey Y) = true := decide_eq_true ⟨hY, by have := dY.2; omega, by have := dY.2; omega, by omega, by omega⟩
  have hlog : okLog (lEx X Y Ex Ey) := by simp only [lEx, lIu, okCs, okNl, kx, ky, tx, ty, ix, iy, mX, mY, and_self]
  have lx := iuQ_lt (Ex := Ex) (Ey := Ey) (X := X.nat) (Y := Y.nat)
  have ly := iuQ_lt (Ex := Ey) (Ey := Ex) (X := Y.nat) (Y := X.nat)
  rw [un_comm] at ly
  have e256 : (2 : Nat) ^ 256 = 4 * 2 ^ 254 := rfl
  have ox : (eX Ex X Ey Y).ok := ofN_ok _
  have oy : (eY Ex X Ey Y).ok := ofN_ok _
  have nX : (eX Ex X Ey Y).nat = iuQ Ex (unN Ex X.nat Ey Y.nat) X.nat := by unfold eX; rw [eu]; exact ofN_nat (by omega)
  have nY : (eY Ex X Ey Y).nat = iuQ Ey (unN Ex X.nat Ey Y.nat) Y.nat := by unfold eY; rw [eu]; exact ofN_nat (by omega)
  have k2 : decide ((eX Ex X Ey Y).ok ∧ (eY Ex X Ey Y).ok) = true := decide_eq_true ⟨ox, oy⟩
  have cbX : xbX Ex X Ey Y = iuB Ex (unN Ex X.nat Ey Y.nat) X.nat := by unfold xbX; rw [eu]
  have cbY : xbY Ex X Ey Y = iuB Ey (unN Ex X.nat Ey Y.nat) Y.nat := by unfold xbY; rw [eu]
  obtain ⟨cg, cl', cz⟩ := cmpI_of ox oy
  have hv : ∀ a b : Bool, ([vN a Ex X false, vN b Ey Y false, .int .i64 m].all (lt 0)) = true := fun a b => rfl
  by_cases hn : nx = ny
  · have ev : xuV m nx Ex X ny Ey Y = vN nx (uE Ex X Ey Y) (ofN ((eX Ex X Ey Y).nat + (eY Ex X Ey Y).nat)) ((xbX Ex X Ey Y) || (xbY Ex X Ey Y)) := by
      unfold xuV xuN xuQ xuB exN exQ exB
      rw [if_pos hn, if_pos hn, if_pos hn, eu, nX, nY, cbX, cbY]
    rw [ev]
    subst hn
    cases nx
    · exact fits_calls (tabY_ok conSu_ok) (ex_sff X Y Ex Ey m) (okCons k2 hlog) (hv _ _) (by rfl) w
    · exact fits_calls (tabY_ok conSu_ok) (ex_stt X Y Ex Ey m) (okCons k2 hlog) (hv _ _) (by rfl) w
  · rcases Nat.lt_trichotomy (eX Ex X Ey Y).nat (eY Ex X Ey Y).nat with h | h | h
    · have ev : xuV m nx Ex X ny Ey Y = vN ny (uE Ex X Ey Y) (ofN (apQ (eY Ex X Ey Y).nat (eX Ex X Ey Y).nat (xbX Ex X Ey Y))) ((xbY Ex X Ey Y) || (xbX Ex X Ey Y)) := by
        rw [nX, nY] at h
        unfold xuV xuN xuQ xuB exN exQ exB apQ
        rw [if_neg hn, if_neg hn, if_neg hn, if_neg (Nat.lt_asymm h), if_pos h, if_neg (Nat.lt_asymm h), if_pos h, if_neg (Nat.lt_asymm h), if_pos h, eu, nX, nY, cbX, cbY]
      have k3 : decide ((eY Ex X Ey Y).ok ∧ (eX Ex X Ey Y).ok ∧ (eX Ex X Ey Y).nat < (eY Ex X Ey Y).nat) = true := decide_eq_true ⟨oy, ox, h⟩
      have k4 : decide (cmpI (eX Ex X Ey Y) (eY Ex X Ey Y) = -1) = true := decide_eq_true (cl' h)
      rw [ev]
      cases nx <;> cases ny
      · exact absurd rfl hn
      · exact fits_calls (tabY_ok conSu_ok) (ex_lft X Y Ex Ey m) (okCons k3 (okCons k2 (okCons k4 hlog))) (hv _ _) (by rfl) w
      · exact fits_calls (tabY_ok conSu_ok) (ex_ltf X Y Ex Ey m) (okCons k3 (okCons k2 (okCons k4 hlog))) (hv _ _) (by rfl) w
      · exact absurd rfl hn
    · have ev : xuV m nx Ex X ny Ey Y = vN (m == 4) (uE Ex X Ey Y) ⟨0, 0, 0, 0⟩ false := by
        rw [nX, nY] at h
        unfold xuV xuN xuQ xuB exN exQ exB
        rw [if_neg hn, if_neg hn, if_neg hn, h, if_neg (Nat.lt_irrefl _), if_neg (Nat.lt_irrefl _), if_neg (Nat.lt_irrefl _), if_neg (Nat.lt_irrefl _), if_neg (Nat.lt_irrefl _), if_neg (Nat.lt_irrefl _), eu, ofN_zero]
        rfl
      have k4 : decide (cmpI (eX Ex X Ey Y) (eY Ex X Ey Y) = 0) = true := decide_eq_true (cz h)
      rw [ev]
      cases nx <;> cases ny
      · exact absurd rfl hn
      · exact fits_calls (tabY_ok conSu_ok) (ex_zft X Y Ex Ey m) (okCons k2 (okCons k4 hlog)) (hv _ _) (by rfl) w
      · exact fits_calls (tabY_ok conSu_ok) (ex_ztf X Y Ex Ey m) (okCons k2 (okCons k4 hlog)) (hv _ _) (by rfl) w
      · exact absurd rfl hn
    · have ev : xuV m nx Ex X ny Ey Y = vN nx (uE Ex X Ey Y) (ofN (apQ (eX Ex X Ey Y).nat (eY Ex X Ey Y).nat (xbY Ex X Ey Y))) ((xbX Ex X Ey Y) || (xbY Ex X Ey Y)) := by
        rw [nX, nY] at h
        unfold xuV xuN xuQ xuB exN exQ exB apQ
        rw [if_neg hn, if_neg hn, if_neg hn, if_pos h, if_pos h, if_pos h, eu, nX, nY, cbX, cbY]
      have k3 : decide ((eX Ex X Ey Y).ok ∧ (eY Ex X Ey Y).ok ∧ (eY Ex X Ey Y).nat < (eX Ex X Ey Y).nat) = true := decide_eq_true ⟨ox, oy, h⟩
      have k4 : decide (cmpI (eX Ex X Ey Y) (eY Ex X Ey Y) = 1) = true := decide_eq_true (cg h)
      rw [ev]
      cases nx <;> cases ny
      · exact absurd rfl hn
      · exact fits_calls (tabY_ok conSu_ok) (ex_gft X Y Ex Ey m) (okCons k3 (okCons k2 (okCons k4 hlog))) (hv _ _) (by rfl) w
      · exact fits_calls (tabY_ok conSu_ok) (ex_gtf X Y Ex Ey m) (okCons k3 (okCons k2 (okCons k4 hlog))) (hv _ _) (by rfl) w
      · exact absurd rfl hn
/-- a sum's condition -/
def okEx (Ex : Int) (X : W4) (b : Bool) (Ey : Int) (Y : W4) (c : Bool) : Bool := decide (X.ok ∧ Y.ok ∧ b = false ∧ c = false ∧ mayB Ex X false = true ∧ mayB Ey Y false = true)
def gEx : Ans := fun vals s =>
  match vals with
  | [v, t, .int .i64 m] =>
    match n7 v with
    | some (nx, Ex, X, b) =>
      match n7 t with
      | some (ny, Ey, Y, c) => some (.tuple #[xuV m nx Ex X ny Ey Y, .nilIface], s, [(okEx Ex X b Ey Y c, true)])
      | none => none
    | none => none
  | _ => none
theorem gEx_ok : AnsOk 42 gEx := by
  intro vals s v s' lg h hl w
  unfold gEx at h
  split at h
  · split at h
    · rename_i nx Ex X b hn
      split at h
      · rename_i ny Ey Y c hp
        cases h
        rw [n7_spec hn, n7_spec hp]
        obtain ⟨h1, h2, rfl, rfl, h5, h6⟩ := of_decide_eq_true (hl _ (List.mem_singleton.2 rfl))
        exact exact_calls nx ny X Y Ex Ey _ h1 h2 h5 h6 w
      · cases h
    · cases h
  · cases h
end Go.Proofs.Ytehfjljnaencjaa

/-
  sums.Add, as a call in every world.
-/
namespace Go.Proofs.Ytehfjljnaencjaa
open Go.KRun Go.Wd Go.Pt Go.Rn
set_option maxRecDepth 100000

def conA0 : Con := alt 42 gEx conG0
theorem conA0_ok : ConOk conA0 := alt_ok Try.func42 rfl gEx_ok conG0_ok
theorem ad_nTT (a b m : Int) : Fits (reckon (tabOf Try.prog extY conA0 true) 300 19 [.int .u64 a, .int .u64 b, .int .i64 m] [cmp true, cmp true, cmp true, cmp true, cmp true, cmp false]) (rdT 9221120237041090560 1) [lp2, (cl b == 5, true), lU b, lp1, (cl a == 5, true), lU a, (decide (cl a > 3), true), lU a, lp0] := ⟨by kernel_rfl, by kernel_rfl, by kernel_rfl, by kernel_rfl⟩
theorem ad_nTF (a b m : Int) : Fits (reckon (tabOf Try.prog extY conA0 true) 300 19 [.int .u64 a, .int .u64 b, .int .i64 m] [cmp true, cmp true, cmp true, cmp true, cmp false, cmp false]) (rdT 9221120237041090560 1) [lp2, (cl b == 5, false), lU b, lp1, (cl a == 5, true), lU a, (decide (cl a > 3), true), lU a, lp0] := ⟨by kernel_rfl, by kernel_rfl, by kernel_rfl, by kernel_rfl⟩
theorem ad_nFT (a b m : Int) : Fits (reckon (tabOf Try.prog extY conA0 true) 300 19 [.int .u64 a, .int .u64 b, .int .i64 m] [cmp true, cmp true, cmp false, cmp true, cmp true, cmp false]) (rdT 9221120237041090560 1) [lp2, (cl b == 5, true), lU b, lp1, (cl a == 5, false), lU a, (decide (cl a > 3), true), lU a, lp0] := ⟨by kernel_rfl, by kernel_rfl, by kernel_rfl, by kernel_rfl⟩
theorem ad_nFF (a b m : Int) : Fits (reckon (tabOf Try.prog extY conA0 true) 300 19 [.int .u64 a, .int .u64 b, .int .i64 m] [cmp true, cmp true, cmp false, cmp true, cmp false, cmp false]) (rdT 9221120237041090560 0) [lp2, (cl b == 5, false), lU b, lp1, (cl a == 5, false), lU a, (decide (cl a > 3), true), lU a, lp0] := ⟨by kernel_rfl, by kernel_rfl, by kernel_rfl, by kernel_rfl⟩
theorem ad_mT (a b m : Int) : Fits (reckon (tabOf Try.prog extY conA0 true) 300 19 [.int .u64 a, .int .u64 b, .int .i64 m] [cmp true, cmp false, cmp false, cmp true, cmp true, cmp true, cmp false]) (rdT 9221120237041090560 1) [lp2, (cl b == 5, true), lU b, (decide (cl b > 3), true), lU b, lp1, (cl a == 5, false), lU a, (decide (cl a > 3), false), lU a, lp0] := ⟨by kernel_rfl, by kernel_rfl, by kernel_rfl, by kernel_rfl⟩
theorem ad_mF (a b m : Int) : Fits (reckon (tabOf Try.prog extY conA0 true) 300 19 [.int .u64 a, .int .u64 b, .int .i64 m] [cmp true, cmp false, cmp false, cmp true, cmp true, cmp false, cmp false]) (rdT 9221120237041090560 0) [lp2, (cl b == 5, false), lU b, (decide (cl b > 3), true), lU b, lp1, (cl a == 5, false), lU a, (decide (cl a > 3), false), lU a, lp0] := ⟨by kernel_rfl, by kernel_rfl, by kernel_rfl, by kernel_rfl⟩
theorem ad_ii (a b m : Int) : Fits (reckon (tabOf Try.prog extY conA0 true) 300 19 [.int .u64 a, .int .u64 b, .int .i64 m] [cmp true, cmp false, cmp false, cmp true, cmp false, cmp false, cmp false, cmp true, cmp true, cmp true]) (rdT 9221120237041090560 1) [(a != b, true), (cl b == 3, true), lU b, (cl a == 3, true), lU a, lp2, (cl b == 5, false), lU b, (decide (cl b > 3), false), lU b, lp1, (cl a == 5, false), lU a, (decide (cl a > 3), false), lU a, lp0] := ⟨by kernel_rfl, by kernel_rfl, by kernel_rfl, by kernel_rfl⟩
theorem ad_is (a b m : Int) : Fits (reckon (tabOf Try.prog extY conA0 true) 300 19 [.int .u64 a, .int .u64 b, .int .i64 m] [cmp true, cmp false, cmp false, cmp true, cmp false, cmp false, cmp false, cmp true, cmp true, cmp false, cmp true]) (rdT a 0) [(cl a == 3, true), lU a, (a != b, false), (cl b == 3, true), lU b, (cl a == 3, true), lU a, lp2, (cl b == 5, false), lU b, (decide (cl b > 3), false), lU b, lp1, (cl a == 5, false), lU a, (decide (cl a > 3), false), lU a, lp0] := ⟨by kernel_rfl, by kernel_rfl, by kernel_rfl, by kernel_rfl⟩
theorem ad_ia (a b m : Int) : Fits (reckon (tabOf Try.prog extY conA0 true) 300 19 [.int .u64 a, .int .u64 b, .int .i64 m] [cmp true, cmp false, cmp false, cmp true, cmp false, cmp false, cmp false, cmp true, cmp false, cmp true]) (rdT a 0) [(cl a == 3, true), lU a, (cl b == 3, false), lU b, (cl a == 3, true), lU a, lp2, (cl b == 5, false), lU b, (decide (cl b > 3), false), lU b, lp1, (cl a == 5, false), lU a, (decide (cl a > 3), false), lU a, lp0] := ⟨by kernel_rfl, by kernel_rfl, by kernel_rfl, by kernel_rfl⟩
theorem ad_ib (a b m : Int) : Fits (reckon (tabOf Try.prog extY conA0 true) 300 19 [.int .u64 a, .int .u64 b, .int .i64 m] [cmp true, cmp false, cmp false, cmp true, cmp false, cmp false, cmp false, cmp false, cmp false, cmp true]) (rdT b 0) [(cl b == 3, true), lU b, (cl a == 3, false), lU a, (cl a == 3, false), lU a, lp2, (cl b == 5, false), lU b, (decide (cl b > 3), false), lU b, lp1, (cl a == 5, false), lU a, (decide (cl a > 3), false), lU a, lp0] := ⟨by kernel_rfl, by kernel_rfl, by kernel_rfl, by kernel_rfl⟩
theorem ad_fin (a b m : Int) : Fits (reckon (tabOf Try.prog extY conA0 true) 300 19 [.int .u64 a, .int .u64 b, .int .i64 m] [cmp true, cmp false, cmp false, cmp true, cmp false, cmp false, cmp false, cmp false, cmp false, cmp false, cmp true, cmp true]) (rdV m (xuN m (sgn a) (xp a) (wSg a).nat (sgn b) (xp b) (wSg b).nat) (tw (ofN (xuQ (sgn a) (xp a) (wSg a).nat (sgn b) (xp b) (wSg b).nat)) (xuB (sgn a) (xp a) (wSg a).nat (sgn b) (xp b) (wSg b).nat)) (clp (unN (xp a) (wSg a).nat (xp b) (wSg b).nat) - 1)) [(decide (ofN (xuQ (sgn a) (xp a) (wSg a).nat (sgn b) (xp b) (wSg b).nat)).ok, true), (okEx (xp a) (wSg a) false (xp b) (wSg b) false, true), lU b, (decide (cl b ≤ 2), true), lU b, lU a, (decide (cl a ≤ 2), true), lU a, (cl b == 3, false), lU b, (cl a == 3, false), lU a, (cl a == 3, false), lU a, lp2, (cl b == 5, false), lU b, (decide (cl b > 3), false), lU b, lp1, (cl a == 5, false), lU a, (decide (cl a > 3), false), lU a, lp0] := ⟨by kernel_rfl, by kernel_rfl, by kernel_rfl, by kernel_rfl⟩
/-- what Exact answers is rounded as the exact sum -/
theorem xu_rd (k m : Int) {G Ex Ey : Int} {X Y : Nat} (hX : May Ex X) (hY : May Ey Y) (hx : G ≤ Ex) (hy : G ≤ Ey) (nx ny : Bool) :
    rdV k (xuN m nx Ex X ny Ey Y) (tw (ofN (xuQ nx Ex X ny Ey Y)) (xuB nx Ex X ny Ey Y)) (clp (unN Ex X Ey Y) - 1) = rdV k (sgS m nx ny (smI G nx Ex X ny Ey Y)) (smI G nx Ex X ny Ey Y).natAbs G := by
  have hq := xuQ_lt nx Ex X ny Ey Y
  have e : (2 : Nat) ^ 256 = 2 * 2 ^ 255 := rfl
  obtain ⟨c1, c2⟩ := clp_round k (xuN m nx Ex X ny Ey Y) (ofN_ok (xuQ nx Ex X ny Ey Y)) (xuB nx Ex X ny Ey Y) (unN Ex X Ey Y)
  obtain ⟨p, q, r⟩ := xu_round hX hY hx hy k m (xuN m nx Ex X ny Ey Y) nx ny
  unfold rdV
  rw [c1, c2, tw_of (by omega), p, q, r]
/-- what Add answers -/
def suP (m a b : Int) : Int := if 3 < cl a ∨ 3 < cl b then 9221120237041090560 else if cl a = 3 then (if cl b = 3 ∧ a ≠ b then 9221120237041090560 else a) else if cl b = 3 then b else sS (adN m a b) (adP m a b)
def suF (m a b : Int) : Int := if 3 < cl a ∨ 3 < cl b then (if cl a = 5 ∨ cl b = 5 then 1 else 0) else if cl a = 3 then (if cl b = 3 ∧ a ≠ b then 1 else 0) else if cl b = 3 then 0 else adF m a b
def suV (m a b : Int) : Value := rdT (suP m a b) (suF m a b)
theorem sadd_calls (a b m : Int) (ha : U a) (hb : U b) (w : World) : Calls Try.prog 19 #[.int .u64 a, .int .u64 b, .int .i64 m] w fun r w' => r = .returned (suV m a b) ∧ Tidy w w' := by
  have hv : ([.int .u64 a, .int .u64 b, .int .i64 m].all (lt 0)) = true := rfl
  have ka : decide (U a) = true := decide_eq_true ha
  have kb : decide (U b) = true := decide_eq_true hb
  have k0 : lp0.1 = lp0.2 := by decide
  have k1 : lp1.1 = lp1.2 := by decide
  have k2 : lp2.1 = lp2.2 := by decide
  have ba := cl_bd a
  have bb := cl_bd b
  unfold suV suP suF
  by_cases hna : 3 < cl a
  · have g1 : decide (cl a > 3) = true := decide_eq_true hna
    rw [if_pos (.inl hna), if_pos (.inl hna)]
    have mk : ∀ {d e : Bool}, (cl a == 5) = d → (cl b == 5) = e → okLog [lp2, (cl b == 5, e), lU b, lp1, (cl a == 5, d), lU a, (decide (cl a > 3), true), lU a, lp0] := fun h1 h2 =>
      okCons k2 (okCons h2 (okCons kb (okCons k1 (okCons h1 (okCons ka (okCons g1 (okCons ka (okL1 k0))))))))
    by_cases ca : cl a = 5 <;> by_cases cb : cl b = 5
    · rw [if_pos (.inl ca)]; exact fits_calls (tabY_ok conA0_ok) (ad_nTT a b m) (mk (beq_t ca) (beq_t cb)) hv (by rfl) w
    · rw [if_pos (.inl ca)]; exact fits_calls (tabY_ok conA0_ok) (ad_nTF a b m) (mk (beq_t ca) (beq_f cb)) hv (by rfl) w
    · rw [if_pos (.inr cb)]; exact fits_calls (tabY_ok conA0_ok) (ad_nFT a b m) (mk (beq_f ca) (beq_t cb)) hv (by rfl) w
    · rw [if_neg (by omega)]; exact fits_calls (tabY_ok conA0_ok) (ad_nFF a b m) (mk (beq_f ca) (beq_f cb)) hv (by rfl) w
  · have g1 : decide (cl a > 3) = false := decide_eq_false hna
    have ca : (cl a == 5) = false := beq_f (by omega)
    by_cases hnb : 3 < cl b
    · have g2 : decide (cl b > 3) = true := decide_eq_true hnb
      rw [if_pos (.inr hnb), if_pos (.inr hnb)]
      by_cases cb : cl b = 5
      · rw [if_pos (.inr cb)]
        exact fits_calls (tabY_ok conA0_ok) (ad_mT a b m) (okCons k2 (okCons (beq_t cb) (okCons kb (okCons g2 (okCons kb (okCons k1 (okCons ca (okCons ka (okCons g1 (okCons ka (okL1 k0))))))))))) hv (by rfl) w
      · rw [if_neg (by omega)]
        exact fits_calls (tabY_ok conA0_ok) (ad_mF a b m) (okCons k2 (okCons (beq_f cb) (okCons kb (okCons g2 (okCons kb (okCons k1 (okCons ca (okCons ka (okCons g1 (okCons ka (okL1 k0))))))))))) hv (by rfl) w
    · have g2 : decide (cl b > 3) = false := decide_eq_false hnb
      have cb : (cl b == 5) = false := beq_f (by omega)
      have lN : okLog [lp2, (cl b == 5, false), lU b, (decide (cl b > 3), false), lU b, lp1, (cl a == 5, false), lU a, (decide (cl a > 3), false), lU a, lp0] :=
        okCons k2 (okCons cb (okCons kb (okCons g2 (okCons kb (okCons k1 (okCons ca (okCons ka (okCons g1 (okCons ka (okL1 k0))))))))))
      have hno : ¬ (3 < cl a ∨ 3 < cl b) := by omega
      rw [if_neg hno, if_neg hno]
      by_cases ea : cl a = 3
      · rw [if_pos ea, if_pos ea]
        by_cases eb : cl b = 3
        · by_cases hab : a = b
          · rw [if_neg (fun h => h.2 hab), if_neg (fun h => h.2 hab)]
            exact fits_calls (tabY_ok conA0_ok) (ad_is a b m) (okCons (beq_t ea) (okCons ka (okCons (bne_f hab) (okCons (beq_t eb) (okCons kb (okCons (beq_t ea) (okCons ka lN))))))) hv (by rfl) w
          · rw [if_pos ⟨eb, hab⟩, if_pos ⟨eb, hab⟩]
            exact fits_calls (tabY_ok conA0_ok) (ad_ii a b m) (okCons (bne_t hab) (okCons (beq_t eb) (okCons kb (okCons (beq_t ea) (okCons ka lN))))) hv (by rfl) w
        · rw [if_neg (fun h => eb h.1), if_neg (fun h => eb h.1)]
          exact fits_calls (tabY_ok conA0_ok) (ad_ia a b m) (okCons (beq_t ea) (okCons ka (okCons (beq_f eb) (okCons kb (okCons (beq_t ea) (okCons ka lN)))))) hv (by rfl) w
      · rw [if_neg ea, if_neg ea]
        by_cases eb : cl b = 3
        · rw [if_pos eb, if_pos eb]
          exact fits_calls (tabY_ok conA0_ok) (ad_ib a b m) (okCons (beq_t eb) (okCons kb (okCons (beq_f ea) (okCons ka (okCons (beq_f ea) (okCons ka lN)))))) hv (by rfl) w
        · rw [if_neg eb, if_neg eb]
          have mA : May (xp a) (wSg a).nat := by rw [wSg_nat]; exact may_pat a
          have mB : May (xp b) (wSg b).nat := by rw [wSg_nat]; exact may_pat b
          have kE : okEx (xp a) (wSg a) false (xp b) (wSg b) false = true := decide_eq_true ⟨wSg_ok a, wSg_ok b, rfl, rfl, (may_iff (wSg_ok a)).2 mA, (may_iff (wSg_ok b)).2 mB⟩
          have fa : decide (cl a ≤ 2) = true := decide_eq_true (by omega)
          have fb : decide (cl b ≤ 2) = true := decide_eq_true (by omega)
          have hf := ad_fin a b m
          rw [xu_rd m m mA mB (xp_bd a).1 (xp_bd b).1, wSg_nat, wSg_nat] at hf
          exact fits_calls (tabY_ok conA0_ok) hf (okCons (decide_eq_true (ofN_ok _)) (okCons kE (okCons kb (okCons fb (okCons kb (okCons ka (okCons fa (okCons ka (okCons (beq_f eb) (okCons kb (okCons (beq_f ea) (okCons ka (okCons (beq_f ea) (okCons ka lN)))))))))))))) hv (by rfl) w
def gSA : Ans := fun vals s =>
  match vals with
  | [.int .u64 a, .int .u64 b, .int .i64 m] => some (suV m a b, s, [(decide (U a ∧ U b), true)])
  | _ => none
theorem gSA_ok : AnsOk 19 gSA := by
  intro vals s v s' lg h hl w
  unfold gSA at h
  split at h
  · cases h
    obtain ⟨h1, h2⟩ := of_decide_eq_true (hl _ (List.mem_singleton.2 rfl))
    exact sadd_calls _ _ _ h1 h2 w
  · cases h
end Go.Proofs.Ytehfjljnaencjaa
