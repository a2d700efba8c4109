/-
  What is known of wide, for sums; what is known of layer 5's helpers: fits, top, inUnits, together, apart.
-/
import Derived.Test.YtgmfnecdpfdncaaRnE
import Derived.Test.YtgmfnecdpfdncaaNumG
namespace Go.Proofs.Ytgmfnecdpfdncaa
open Go.KRun Go.Wd Go.Pt Go.Rn
set_option maxRecDepth 100000

def conWs : Con := alt 62 (g1n (plain1n shlV4)) (alt 63 (g1n (plain1n shrV4)) (alt 61 (g1 lenV4) (alt 64 (g2 (plain2 addV4)) (alt 65 (g2 (plain2 subV4)) (alt 37 (g2 cmpN) conN)))))
theorem conWs_ok : ConOk conWs := alt_ok Try.func62 rfl (plain1n_ok shl_calls) (alt_ok Try.func63 rfl (plain1n_ok shr_calls) (alt_ok Try.func61 rfl (g1_ok wlen_calls) (alt_ok Try.func64 rfl (plain2_ok add_calls) (alt_ok Try.func65 rfl (plain2_ok sub_calls) (alt_ok Try.func37 rfl cmpN_ok conN_ok)))))

/-! ### fits -/
def lL (x : W4) (d : Bool) : Bool × Bool := (decide (lenI x ≤ 128), d)
def lO (x : W4) : Bool × Bool := (decide x.ok, true)
theorem ft1 (n b : Bool) (x : W4) (ex : Int) : Fits (reckon (tabOf Try.prog extY conWs true) 300 33 [vN n ex x b] [cmp false]) (.bool false) [lL x false, lO x] := ⟨by kernel_rfl, by kernel_rfl, by kernel_rfl, by kernel_rfl⟩
theorem ft2 (n : Bool) (x : W4) (ex : Int) : Fits (reckon (tabOf Try.prog extY conWs true) 300 33 [vN n ex x true] [cmp true]) (.bool false) [lL x true, lO x] := ⟨by kernel_rfl, by kernel_rfl, by kernel_rfl, by kernel_rfl⟩
theorem ft3 (n : Bool) (x : W4) (ex : Int) : Fits (reckon (tabOf Try.prog extY conWs true) 300 33 [vN n ex x false] [cmp true, cmp false]) (.bool false) [(decide (-100000 ≤ ex), false), lL x true, lO x] := ⟨by kernel_rfl, by kernel_rfl, by kernel_rfl, by kernel_rfl⟩
theorem ft4 (n : Bool) (x : W4) (ex : Int) : Fits (reckon (tabOf Try.prog extY conWs true) 300 33 [vN n ex x false] [cmp true, cmp true]) (.bool (decide (ex ≤ 100000))) [(decide (-100000 ≤ ex), true), lL x true, lO x] := ⟨by kernel_rfl, by kernel_rfl, by kernel_rfl, by kernel_rfl⟩
def mayB (ex : Int) (x : W4) (b : Bool) : Bool := decide (lenI x ≤ 128) && !b && decide (-100000 ≤ ex) && decide (ex ≤ 100000)
theorem fits5_calls (n b : Bool) (x : W4) (ex : Int) (hx : x.ok) (w : World) : Calls Try.prog 33 #[vN n ex x b] w fun r w' => r = .returned (.bool (mayB ex x b)) ∧ Tidy w w' := by
  have hv : ([vN n ex x b].all (lt 0)) = true := rfl
  have kx : decide x.ok = true := decide_eq_true hx
  unfold mayB
  by_cases hl : lenI x ≤ 128
  · have kl : decide (lenI x ≤ 128) = true := decide_eq_true hl
    rw [kl]
    cases b with
    | true => exact fits_calls (tabY_ok conWs_ok) (ft2 n x ex) (okCons kl (okL1 kx)) hv (by rfl) w
    | false =>
      by_cases he : -100000 ≤ ex
      · have ke : decide (-100000 ≤ ex) = true := decide_eq_true he
        rw [ke]
        exact fits_calls (tabY_ok conWs_ok) (ft4 n x ex) (okCons ke (okCons kl (okL1 kx))) hv (by rfl) w
      · have ke : decide (-100000 ≤ ex) = false := decide_eq_false he
        rw [ke]
        exact fits_calls (tabY_ok conWs_ok) (ft3 n x ex) (okCons ke (okCons kl (okL1 kx))) hv (by rfl) w
  · have kl : decide (lenI x ≤ 128) = false := decide_eq_false hl
    rw [kl]
    exact fits_calls (tabY_ok conWs_ok) (ft1 n b x ex) (okCons kl (okL1 kx)) hv (by rfl) w
def gFt : Ans := fun vals s =>
  match vals with
  | [v] =>
    match n7 v with
    | some (_, ex, x, b) => some (.bool (pickC (mayB ex x b) s).1, (pickC (mayB ex x b) s).2.1, (pickC (mayB ex x b) s).2.2 ++ [(decide x.ok, true)])
    | none => none
  | _ => none
theorem gFt_ok : AnsOk 33 gFt := by
  intro vals s v s' lg h hl w
  unfold gFt at h
  split at h
  · split at h
    · rename_i n ex x b hn
      cases h
      rw [n7_spec hn, pickC_ok (fun p hp => hl p (List.mem_append_left _ hp))]
      exact fits5_calls n b x ex (of_decide_eq_true (hl _ (List.mem_append_right _ (List.mem_singleton.2 rfl)))) w
    · cases h
  · cases h

/-! ### top -/
theorem tp1 (n b : Bool) (x : W4) (ex : Int) : Fits (reckon (tabOf Try.prog extY conWs true) 300 34 [vN n ex x b] [sam true]) (.int .i64 (-100000)) [(eqW x ⟨0, 0, 0, 0⟩, true)] := ⟨by kernel_rfl, by kernel_rfl, by kernel_rfl, by kernel_rfl⟩
theorem tp2 (n b : Bool) (x : W4) (ex : Int) : Fits (reckon (tabOf Try.prog extY conWs true) 300 34 [vN n ex x b] [sam false]) (.int .i64 (IntKind.i64.wrap (ex + lenI x))) [lO x, (eqW x ⟨0, 0, 0, 0⟩, false)] := ⟨by kernel_rfl, by kernel_rfl, by kernel_rfl, by kernel_rfl⟩
def okTp (x : W4) (ex : Int) : Bool := decide (x.ok ∧ -200000 ≤ ex ∧ ex ≤ 200000)
theorem nat_zero {x : W4} (h : x.ok) : x.nat = 0 ↔ eqW x ⟨0, 0, 0, 0⟩ = true := by
  rw [eqW_iff]
  constructor
  · intro h0; rw [← ofN_self h, h0, ofN_zero]
  · intro h0; rw [h0]; rfl
theorem top_calls (n b : Bool) (x : W4) (ex : Int) (h : x.ok ∧ -200000 ≤ ex ∧ ex ≤ 200000) (w : World) : Calls Try.prog 34 #[vN n ex x b] w fun r w' => r = .returned (.int .i64 (topN ex x.nat)) ∧ Tidy w w' := by
  have hv : ([vN n ex x b].all (lt 0)) = true := rfl
  unfold topN
  cases he : eqW x ⟨0, 0, 0, 0⟩ with
  | true =>
    rw [if_pos ((nat_zero h.1).2 he)]
    exact fits_calls (tabY_ok conWs_ok) (tp1 n b x ex) (okL1 he) hv (by rfl) w
  | false =>
    have hz : ¬ x.nat = 0 := fun h0 => by rw [(nat_zero h.1).1 h0] at he; cases he
    have hl := len256 h.1
    have e : IntKind.i64.wrap (ex + lenI x) = ex + (bitLen x.nat : Nat) := by rw [lenI_nat, wrapI' ⟨by omega, by omega⟩]
    rw [if_neg hz, ← e]
    exact fits_calls (tabY_ok conWs_ok) (tp2 n b x ex) (okCons (decide_eq_true h.1) (okL1 he)) hv (by rfl) w
def gTp : Ans := fun vals s =>
  match vals with
  | [v] =>
    match n7 v with
    | some (_, ex, x, _) => some (.int .i64 (topN ex x.nat), s, [(okTp x ex, true)])
    | none => none
  | _ => none
theorem gTp_ok : AnsOk 34 gTp := by
  intro vals s v s' lg h hl w
  unfold gTp at h
  split at h
  · split at h
    · rename_i n ex x b hn
      cases h
      rw [n7_spec hn]
      exact top_calls n b x ex (of_decide_eq_true (hl _ (List.mem_singleton.2 rfl))) w
    · cases h
  · cases h

/-! ### inUnits -/
def lW' (x : W4) (n : Int) : Bool × Bool := (decide (x.ok ∧ -9223372036854775808 ≤ n ∧ n ≤ 9223372036854775807), true)
theorem iu1 (n b : Bool) (x : W4) (ex u : Int) : Fits (reckon (tabOf Try.prog extY conWs true) 300 35 [vN n ex x b, .int .i64 u] [cmp true]) (vN n u (shlW x (IntKind.i64.wrap (ex - u))) false) [lW' x (IntKind.i64.wrap (ex - u)), (decide (ex ≥ u), true)] := ⟨by kernel_rfl, by kernel_rfl, by kernel_rfl, by kernel_rfl⟩
theorem iu2 (n b : Bool) (x : W4) (ex u : Int) : Fits (reckon (tabOf Try.prog extY conWs true) 300 35 [vN n ex x b, .int .i64 u] [cmp false]) (vN n u (shrW x (IntKind.i64.wrap (u - ex))) (shrL x (IntKind.i64.wrap (u - ex)))) [lW' x (IntKind.i64.wrap (u - ex)), (decide (ex ≥ u), false)] := ⟨by kernel_rfl, by kernel_rfl, by kernel_rfl, by kernel_rfl⟩
def okIu (x : W4) (ex u : Int) : Bool := decide (x.ok ∧ -200000 ≤ ex ∧ ex ≤ 200000 ∧ -400000 ≤ u ∧ u ≤ 400000)
theorem iu_calls (n b : Bool) (x : W4) (ex u : Int) (h : x.ok ∧ -200000 ≤ ex ∧ ex ≤ 200000 ∧ -400000 ≤ u ∧ u ≤ 400000) (w : World) : Calls Try.prog 35 #[vN n ex x b, .int .i64 u] w fun r w' => r = .returned (vN n u (ofN (iuQ ex u x.nat)) (iuB ex u x.nat)) ∧ Tidy w w' := by
  have hv : ([vN n ex x b, .int .i64 u].all (lt 0)) = true := rfl
  unfold iuQ iuB
  by_cases hu : u ≤ ex
  · rw [if_pos hu, if_pos hu]
    have e : IntKind.i64.wrap (ex - u) = ex - u := wrapI' ⟨by omega, by omega⟩
    have hf := iu1 n b x ex u
    rw [e, shlW_nat h.1 (by omega)] at hf
    exact fits_calls (tabY_ok conWs_ok) hf (okCons (lok_ok h.1 (by omega) (by omega)) (okL1 (decide_eq_true hu))) hv (by rfl) w
  · rw [if_neg hu, if_neg hu]
    have e : IntKind.i64.wrap (u - ex) = u - ex := wrapI' ⟨by omega, by omega⟩
    have hf := iu2 n b x ex u
    rw [e, shrW_nat h.1 (by omega), shrL_nat h.1 (by omega)] at hf
    exact fits_calls (tabY_ok conWs_ok) hf (okCons (lok_ok h.1 (by omega) (by omega)) (okL1 (decide_eq_false hu))) hv (by rfl) w
def gIu : Ans := fun vals s =>
  match vals with
  | [v, .int .i64 u] =>
    match n7 v with
    | some (n, ex, x, _) => some (vN n u (ofN (iuQ ex u x.nat)) (iuB ex u x.nat), s, [(okIu x ex u, true)])
    | none => none
  | _ => none
theorem gIu_ok : AnsOk 35 gIu := by
  intro vals s v s' lg h hl w
  unfold gIu at h
  split at h
  · split at h
    · rename_i n ex x b hn
      cases h
      rw [n7_spec hn]
      exact iu_calls n b x ex _ (of_decide_eq_true (hl _ (List.mem_singleton.2 rfl))) w
    · cases h
  · cases h

/-! ### together -/
def lTwo (x y : W4) : Bool × Bool := (decide (x.ok ∧ y.ok), true)
theorem tg (n p a b : Bool) (x y : W4) (ex u : Int) : Fits (reckon (tabOf Try.prog extY conWs true) 300 36 [vN n ex x a, vN p u y b] []) (vN n ex (W4.of (x.val + y.val)) (a || b)) [lTwo x y] := by
  cases a <;> exact ⟨by kernel_rfl, by kernel_rfl, by kernel_rfl, by kernel_rfl⟩
theorem add_nat {x y : W4} (hx : x.ok) (hy : y.ok) : W4.of (x.val + y.val) = ofN (x.nat + y.nat) := by
  unfold ofN
  rw [W4.nat_val hx, W4.nat_val hy]
  congr 1
theorem sub_nat {x y : W4} (hx : x.ok) (hy : y.ok) (h : y.nat ≤ x.nat) : W4.of (x.val - y.val) = ofN (x.nat - y.nat) := by
  unfold ofN
  rw [W4.nat_val hx, W4.nat_val hy]
  congr 1
  omega
def gTg : Ans := fun vals s =>
  match vals with
  | [v, t] =>
    match n7 v with
    | some (n, ex, x, a) =>
      match n7 t with
      | some (_, _, y, b) => some (vN n ex (ofN (x.nat + y.nat)) (a || b), s, [(decide (x.ok ∧ y.ok), true)])
      | none => none
    | none => none
  | _ => none
theorem gTg_ok : AnsOk 36 gTg := by
  intro vals s v s' lg h hl w
  unfold gTg at h
  split at h
  · split at h
    · rename_i n ex x a hn
      split at h
      · rename_i p u y b hp
        cases h
        rw [n7_spec hn, n7_spec hp]
        obtain ⟨hx, hy⟩ := of_decide_eq_true (hl _ (List.mem_singleton.2 rfl))
        rw [← add_nat hx hy]
        exact fits_calls (tabY_ok conWs_ok) (tg n p a b x y ex u) (okL1 (decide_eq_true ⟨hx, hy⟩)) (by rfl) (by rfl) w
      · cases h
    · cases h
  · cases h

/-! ### apart -/
theorem ap1 (n p a : Bool) (x y : W4) (ex u : Int) : Fits (reckon (tabOf Try.prog extY conWs true) 300 38 [vN n ex x a, vN p u y false] []) (vN n ex (W4.of (x.val - y.val)) a) [lTwo x y] := ⟨by kernel_rfl, by kernel_rfl, by kernel_rfl, by kernel_rfl⟩
def sb4 (x y : W4) : W4 := ⟨(W4.of (x.val - y.val)).a, (W4.of (x.val - y.val)).b, (W4.of (x.val - y.val)).c, (W4.of (x.val - y.val)).d⟩
theorem sb4_eq (x y : W4) : sb4 x y = W4.of (x.val - y.val) := rfl
/-- where the region that draws its order ends -/
def apE (n p a : Bool) (x y : W4) (ex u : Int) : Lf := ([.agg { toList := [.bool n, .int .i64 ex, .int .u64 x.a, .int .u64 x.b, .int .u64 x.c, .int .u64 x.d, .bool a] }, .agg { toList := [.bool p, .int .i64 u, .int .u64 y.a, .int .u64 y.b, .int .u64 y.c, .int .u64 y.d, .bool true] }, .pointer (some { block := 0, off := 0 }), .pointer (some { block := 1, off := 0 }), .pointer (some { block := 2, off := 0 }), .tuple { toList := [.agg { toList := [.int .u64 (W4.of (x.val - y.val)).a, .int .u64 (W4.of (x.val - y.val)).b, .int .u64 (W4.of (x.val - y.val)).c, .int .u64 (W4.of (x.val - y.val)).d] }, .bool (decide (x.val < y.val))] }, .pointer (some { block := 0, off := 2 }), .agg { toList := [.int .u64 x.a, .int .u64 x.b, .int .u64 x.c, .int .u64 x.d] }, .pointer (some { block := 1, off := 2 }), .agg { toList := [.int .u64 y.a, .int .u64 y.b, .int .u64 y.c, .int .u64 y.d] }, .tuple { toList := [.agg { toList := [.int .u64 (W4.of (x.val - y.val)).a, .int .u64 (W4.of (x.val - y.val)).b, .int .u64 (W4.of (x.val - y.val)).c, .int .u64 (W4.of (x.val - y.val)).d] }, .bool (decide (x.val < y.val))] }, .agg { toList := [.int .u64 (W4.of (x.val - y.val)).a, .int .u64 (W4.of (x.val - y.val)).b, .int .u64 (W4.of (x.val - y.val)).c, .int .u64 (W4.of (x.val - y.val)).d] }, .bool (decide (x.val < y.val)), .pointer (some { block := 0, off := 2 }), .pointer (some { block := 1, off := 6 }), .bool true, .tuple { toList := [.agg { toList := [.int .u64 (W4.of ((sb4 x y).val - w1.val)).a, .int .u64 (W4.of ((sb4 x y).val - w1.val)).b, .int .u64 (W4.of ((sb4 x y).val - w1.val)).c, .int .u64 (W4.of ((sb4 x y).val - w1.val)).d] }, .bool (decide ((sb4 x y).val < w1.val))] }, .pointer (some { block := 0, off := 2 }), .agg { toList := [.int .u64 (W4.of (x.val - y.val)).a, .int .u64 (W4.of (x.val - y.val)).b, .int .u64 (W4.of (x.val - y.val)).c, .int .u64 (W4.of (x.val - y.val)).d] }, .agg { toList := [.int .u64 1, .int .u64 0, .int .u64 0, .int .u64 0] }, .tuple { toList := [.agg { toList := [.int .u64 (W4.of ((sb4 x y).val - w1.val)).a, .int .u64 (W4.of ((sb4 x y).val - w1.val)).b, .int .u64 (W4.of ((sb4 x y).val - w1.val)).c, .int .u64 (W4.of ((sb4 x y).val - w1.val)).d] }, .bool (decide ((sb4 x y).val < w1.val))] }, .agg { toList := [.int .u64 (W4.of ((sb4 x y).val - w1.val)).a, .int .u64 (W4.of ((sb4 x y).val - w1.val)).b, .int .u64 (W4.of ((sb4 x y).val - w1.val)).c, .int .u64 (W4.of ((sb4 x y).val - w1.val)).d] }, .bool (decide ((sb4 x y).val < w1.val)), .pointer (some { block := 0, off := 2 }), .tuple { toList := [] }, .tuple { toList := [] }], { n := 3, l := [([.bool false, .int .i64 0, .int .u64 0, .int .u64 0, .int .u64 0, .int .u64 0, .bool false], 39), ([.bool p, .int .i64 u, .int .u64 y.a, .int .u64 y.b, .int .u64 y.c, .int .u64 y.d, .bool true], 39), ([.bool n, .int .i64 ex, .int .u64 (W4.of ((sb4 x y).val - w1.val)).a, .int .u64 (W4.of ((sb4 x y).val - w1.val)).b, .int .u64 (W4.of ((sb4 x y).val - w1.val)).c, .int .u64 (W4.of ((sb4 x y).val - w1.val)).d, .bool a], 39)] }, [])
theorem ap2 (n p a : Bool) (x y : W4) (ex u : Int) : Fits (reckon (tabOf Try.prog extY conWs true) 300 38 [vN n ex x a, vN p u y true] []) (vN n ex (W4.of ((sb4 x y).val - w1.val)) true) [lTwo (sb4 x y) w1, lTwo (sb4 x y) w1, lTwo x y] :=
  ⟨by kernel_rfl, by kernel_rfl, Eq.trans (b := some [apE n p a x y ex u]) (by kernel_rfl) (by kernel_rfl), by kernel_rfl⟩
def apQ (p q : Nat) (b : Bool) : Nat := p - q - bN b
def gAp : Ans := fun vals s =>
  match vals with
  | [v, t] =>
    match n7 v with
    | some (n, ex, x, a) =>
      match n7 t with
      | some (_, _, y, b) => some (vN n ex (ofN (apQ x.nat y.nat b)) (a || b), s, [(decide (x.ok ∧ y.ok ∧ y.nat < x.nat), true)])
      | none => none
    | none => none
  | _ => none
theorem gAp_ok : AnsOk 38 gAp := by
  intro vals s v s' lg h hl w
  unfold gAp at h
  split at h
  · split at h
    · rename_i n ex x a hn
      split at h
      · rename_i p u y b hp
        cases h
        rw [n7_spec hn, n7_spec hp]
        obtain ⟨hx, hy, hlt⟩ := of_decide_eq_true (hl _ (List.mem_singleton.2 rfl))
        have hxl := W4.nat_lt hx
        have hw : w1.ok := by decide
        have h1 : w1.nat = 1 := by decide
        have e1 := sub_nat hx hy (by omega)
        have e2 : (ofN (x.nat - y.nat)).nat = x.nat - y.nat := ofN_nat (by omega)
        cases b with
        | false =>
          have e : ofN (apQ x.nat y.nat false) = W4.of (x.val - y.val) := by rw [e1]; rfl
          rw [e, Bool.or_false]
          exact fits_calls (tabY_ok conWs_ok) (ap1 n p a x y ex u) (okL1 (decide_eq_true ⟨hx, hy⟩)) (by rfl) (by rfl) w
        | true =>
          have e : ofN (apQ x.nat y.nat true) = W4.of ((sb4 x y).val - w1.val) := by
            rw [sb4_eq, e1, sub_nat (ofN_ok _) hw (by omega), e2, h1]
            rfl
          rw [e, Bool.or_true]
          exact fits_calls (tabY_ok conWs_ok) (ap2 n p a x y ex u) (okCons (decide_eq_true ⟨by rw [sb4_eq]; exact W4.ok_of _, hw⟩) (okCons (decide_eq_true ⟨by rw [sb4_eq]; exact W4.ok_of _, hw⟩) (okL1 (decide_eq_true ⟨hx, hy⟩)))) (by rfl) (by rfl) w
      · cases h
    · cases h
  · cases h
def conSu : Con := alt 33 gFt (alt 34 gTp (alt 35 gIu (alt 36 gTg (alt 38 gAp conWs))))
theorem conSu_ok : ConOk conSu := alt_ok Try.func33 rfl gFt_ok (alt_ok Try.func34 rfl gTp_ok (alt_ok Try.func35 rfl gIu_ok (alt_ok Try.func36 rfl gTg_ok (alt_ok Try.func38 rfl gAp_ok conWs_ok))))
end Go.Proofs.Ytgmfnecdpfdncaa
