/-
  wide.guess, as a call; the pieces of wide.DivMod.
-/
import Derived.Test.YtdahpclbjeeeiaaDoorConD3
import Derived.Test.YtdahpclbjeeeiaaDoorCon5
namespace Go.Proofs.YtdahpclbjeeeiaaDoor
open Go.KRun Go.Wd
set_option maxRecDepth 100000

def norm3 (h l b : Int) : Bool × Bool := (decide (word h ∧ word l ∧ 9223372036854775808 ≤ b ∧ b < 18446744073709551616 ∧ h < b), true)
def gDiv : Ans := fun vals s =>
  match vals with
  | [x, y, z] =>
    match u1 x, u1 y, u1 z with
    | some h, some l, some b => some (divV h l b, s, [norm3 h l b])
    | _, _, _ => none
  | _ => none
theorem gDiv_ok : AnsOk 32 gDiv := by
  intro vals s v s' lg h hl w
  unfold gDiv at h
  split at h
  · split at h
    · rename_i x y z hx hy hz
      cases h
      have h1 := hl _ (List.mem_singleton.2 rfl)
      simp only [norm3, decide_eq_true_eq] at h1
      rw [u1_spec hx, u1_spec hy, u1_spec hz]
      exact div_calls _ _ _ h1.1 h1.2.1 ⟨h1.2.2.1, h1.2.2.2.1⟩ h1.2.2.2.2 w
    · cases h
  · cases h
def conDv : Con := alt 32 gDiv conN
theorem conDv_ok : ConOk conDv := alt_ok Tryd.func32 rfl gDiv_ok conN_ok
theorem guess_top (h l b : Int) : Fits (reckon (tabOf Tryd.prog extY conDv true) 300 21 [u_ h, u_ l, u_ b] [cmp true]) (u_ 18446744073709551615) [(decide (h ≥ b), true)] := ⟨by kernel_rfl, by kernel_rfl, by kernel_rfl, by kernel_rfl⟩
theorem guess_quo (h l b : Int) : Fits (reckon (tabOf Tryd.prog extY conDv true) 300 21 [u_ h, u_ l, u_ b] [cmp false]) (u_ ((h * 18446744073709551616 + l) / b)) [norm3 h l b, (decide (h ≥ b), false)] := ⟨by kernel_rfl, by kernel_rfl, by kernel_rfl, by kernel_rfl⟩
def gs (h l b : Int) : Int := if h ≥ b then 18446744073709551615 else (h * 18446744073709551616 + l) / b
def gok (h l b : Int) : Bool × Bool := (decide (word h ∧ word l ∧ 9223372036854775808 ≤ b ∧ b < 18446744073709551616), true)
theorem guess_calls (h l b : Int) (hh : word h) (hl : word l) (hb : 9223372036854775808 ≤ b ∧ b < 18446744073709551616) (w : World) : Calls Tryd.prog 21 #[u_ h, u_ l, u_ b] w fun e w' => e = .returned (u_ (gs h l b)) ∧ Tidy w w' := by
  unfold gs
  by_cases hc : h ≥ b
  · rw [if_pos hc]
    exact fits_calls (tabY_ok conDv_ok) (guess_top h l b) (okL1 (decide_eq_true hc)) (by rfl) (by rfl) w
  · rw [if_neg hc]
    exact fits_calls (tabY_ok conDv_ok) (guess_quo h l b) (okCons (decide_eq_true ⟨hh, hl, hb.1, hb.2, by omega⟩) (okL1 (decide_eq_false hc))) (by rfl) (by rfl) w
def gGuess : Ans := fun vals s =>
  match vals with
  | [x, y, z] =>
    match u1 x, u1 y, u1 z with
    | some h, some l, some b => some (u_ (gs h l b), s, [gok h l b])
    | _, _, _ => none
  | _ => none
theorem gGuess_ok : AnsOk 21 gGuess := by
  intro vals s v s' lg h hl w
  unfold gGuess at h
  split at h
  · split at h
    · rename_i x y z hx hy hz
      cases h
      have h1 := hl _ (List.mem_singleton.2 rfl)
      simp only [gok, decide_eq_true_eq] at h1
      rw [u1_spec hx, u1_spec hy, u1_spec hz]
      exact guess_calls _ _ _ h1.1 h1.2.1 h1.2.2 w
    · cases h
  · cases h
def conQ : Con := alt 21 gGuess (alt 33 gMA (alt 10 (g1 lenV4) (alt 11 (g1n (plain1n shlV4)) (alt 13 (g1n (plain1n shrV4)) conN))))
theorem conQ_ok : ConOk conQ := alt_ok Tryd.func21 rfl gGuess_ok (alt_ok Tryd.func33 rfl gMA_ok (alt_ok Tryd.func10 rfl (g1_ok wlen_calls) (alt_ok Tryd.func11 rfl (plain1n_ok shl_calls) (alt_ok Tryd.func13 rfl (plain1n_ok shr_calls) conN_ok))))
def eN (F : Func) : Nat → Code
  | 0 => cBody F
  | n + 1 => cSnd (eN F n)
def qPre (F : Func) : List Code := (List.range 8).map fun i => cFst (eN F i)
def qR (F : Func) : Code := cFst (cFst (eN F 8))
def qLoop (F : Func) : Code := cIn (cIn (cSnd (cFst (eN F 8))))
def qEnd (F : Func) : Code := eN F 9
theorem quo_body : Tryd.f4.body = some (seqs (qPre Tryd.f4) (.seq (.seq (qR Tryd.f4) (.block 0 (.loop (qLoop Tryd.f4)))) (qEnd Tryd.f4))) := by kernel_rfl
def t_ (n : Nat) : Value := .pointer (some ⟨n, 0, none⟩)
def vQ (l : List Int) : List Value := l.map (Value.int .u64)
def qFr (v0 v1 : Value) (n up i : Int) (v14 v15 : Value) : List Value := [v0, v1, t_ 0, t_ 1, t_ 2, t_ 3, .nilIface, .int .i64 n, .int .i64 up, t_ 4, t_ 5, t_ 6, t_ 7, .int .i64 i, v14, v15]
def cW (x : W4) : List Value × TypeId := ([.int .u64 x.a, .int .u64 x.b, .int .u64 x.c, .int .u64 x.d], 24)
def qHp (a b lw : W4) (by_ rest quo : List Int) : Hp := ⟨8, [(vQ quo, 24), (vQ rest, 42), cW lw, (vQ by_, 24), cW ⟨0, 0, 0, 0⟩, cW ⟨0, 0, 0, 0⟩, cW b, cW a]⟩
end Go.Proofs.YtdahpclbjeeeiaaDoor
