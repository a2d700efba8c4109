/-
  PROVED HERE: for every input the law tillerlaw01.WideBits returns true, and each argument reads afterwards as it read before: how many bits any number of 256 bits has, and each of them, are as the document's own reckoning says. No condition.
-/
import Derived.Test.YtaaibjgcbghejaaSure
import Derived.Test.YtaaibjgcbghejaaConR3
import Derived.Test.YtaaibjgcbghejaaRow
import Derived.Test.YtaaibjgcbghejaaRows
namespace Go.Proofs.Ytaaibjgcbghejaa.wideBits
open Go.KRun Go.Wd Go.ChangeShapes Go.WideShapes Go.ChangeAt Go.RowKit
set_option linter.unusedVariables false

def con : Con := alt 17 (g1 lenV4) (alt 18 (g1 lenV4) (alt 19 (g1n (plain1n bitV4)) (alt 20 (g1n (plain1n rbitV4)) (alt 14 gSure conN))))
theorem con_ok : ConOk con := alt_ok Try.func17 rfl (g1_ok wlen_calls) (alt_ok Try.func18 rfl (g1_ok rlen_calls) (alt_ok Try.func19 rfl (plain1n_ok bit_calls) (alt_ok Try.func20 rfl (plain1n_ok rbit_calls) (alt_ok Try.func14 rfl gSure_ok conN_ok))))

def lo (x : W4) : Bool × Bool := (decide x.ok, true)
def sl (x : W4) : Bool × Bool := (lenI x == lenI x, true)
def sb (x : W4) (n : Int) : Bool × Bool := (IntKind.i64.wrap (bitI x n) == bitI x n, true)
def sk (k : Int) : Bool × Bool := (eqW ⟨k, 0, 0, 0⟩ ⟨k, 0, 0, 0⟩, true)
set_option maxRecDepth 100000 in
theorem law (x : W4) (n k : Int) : Fits (reckon (tabOf Try.prog extY con true) 3000 5 [vW x, .int .i64 n, .int .u64 k] [cmp true, cmp true, sam true]) (.bool true)
    [sk k, sb x n, lk x n, lk x n, sl x, lo x, lo x] := ⟨by kernel_rfl, by kernel_rfl, by kernel_rfl, by kernel_rfl⟩

theorem sb_ok (x : W4) (n : Int) : (sb x n).1 = (sb x n).2 := by
  have h : bitI x n = 0 ∨ bitI x n = 1 := by
    unfold bitI
    split
    · exact .inl rfl
    · split
      · exact .inl rfl
      · omega
  unfold sb
  rcases h with h | h <;> rw [h] <;> rfl

set_option maxRecDepth 100000 in
theorem walk (x : W4) (n k : Int) (hx : x.ok) (hn : -9223372036854775808 ≤ n ∧ n ≤ 9223372036854775807) (w : World) : Calls Try.prog 5 #[vW x, .int .i64 n, .int .u64 k] w fun e w' => e = .returned (.bool true) ∧ Tidy w w' := by
  have q1 : (lo x).1 = (lo x).2 := decide_eq_true hx
  have q2 : (sl x).1 = (sl x).2 := beq_iff_eq.2 rfl
  have q3 := lk_ok (n := n) hx hn.1 hn.2
  have q4 := sb_ok x n
  have q5 : (sk k).1 = (sk k).2 := eqW_iff.2 rfl
  exact fits_calls (tabY_ok con_ok) (law x n k) (okCons q5 (okCons q4 (okCons q3 (okCons q3 (okCons q2 (okCons q1 (okL1 q1))))))) (by rfl) (by rfl) w

theorem own : ownKnob Try.prog.godebug = none := by kernel_rfl
theorem cellsA : Try.prog.cellsOf 23 = 4 := by kernel_rfl
theorem cellsE : Try.prog.cellsOf 22 = 1 := by kernel_rfl
set_option maxRecDepth 100000 in
theorem lifted (os : Os) (started : os.Started) (H : Type) (enc : TypeId × Value → H) :
    ReturnsInHanded {} Try.checked os 5 .any (Rows.wideBitsSpec.pre6 enc Try.prog Try.f5 Rows.wideBitsRow.domain false) (Rows.wideBitsSpec.post enc Try.prog Try.f5 false true false false) := by
  refine returnsInHanded_of_change (C := Try.checked) own started (by kernel_rfl) Try.func5
    (ChangeSpec.witness6 (enc := enc) (C := Try.checked) false ⟨#[], #[.agg #[.int .u64 0, .int .u64 0, .int .u64 0, .int .u64 0], .int .i64 0, .int .u64 0], []⟩ 8 (by kernel_rfl) (by kernel_rfl) (by kernel_rfl) (by kernel_rfl)) ?_
  intro W base args ds gs before hval0 hW hcnd _
  have hval : ∀ (j : Nat) t v, Try.f5.params[j]? = some t → args[j]? = some v → Value.okWide Try.prog W .any base t v := hval0
  have hW' := hW
  obtain ⟨p, q, hA0, hV, rfl, hfz, hnd⟩ := hW
  have hA : DataW.TrodAll enc Try.prog W 0 (fun _ => true) true Try.f5.params.toList args.toList ds p := hA0
  rw [Try.params5] at hA hval
  obtain ⟨v0, v1, v2, d0, d1, d2, p0, p1, p2, rfl, rfl, rfl, h0, h1, h2⟩ := trodAll_three hA
  obtain ⟨rfl, rfl⟩ := trodVars_none hV
  obtain ⟨a0, a1, a2, a3, rfl, rfl, rfl, wa0, wa1, wa2, wa3⟩ := open_w4 Try.underlying23 Try.underlying22 cellsA cellsE (hval 0 23 v0 rfl rfl) h0
  obtain ⟨n, rfl, rfl, rfl, wn⟩ := open_int Try.underlying3 (hval 1 3 v1 rfl rfl) h1
  obtain ⟨k, rfl, rfl, rfl, wk⟩ := open_int Try.underlying22 (hval 2 22 v2 rfl rfl) h2
  clear hA0 hval0
  simp only [List.append_nil] at hW'
  refine (walk ⟨a0, a1, a2, a3⟩ n k ⟨u64_bounds wa0, u64_bounds wa1, u64_bounds wa2, u64_bounds wa3⟩ (i64_bounds wn) W).mono fun e W' ⟨he, hg⟩ => ?_
  subst he
  exact ⟨_, rfl, post_of_same (pa := []) (pv := []) hW' (fun _ _ _ => trodAll_mk1 (shut_bool Try.underlying4 _))
    (fun sp _ => trodAll_mk3 (shut_w4 Try.underlying23 Try.underlying22 cellsA cellsE wa0 wa1 wa2 wa3) (shut_int Try.underlying3 wn) (shut_int Try.underlying22 wk)) (fun _ _ => rfl) rfl
    (hg.1.frame _) (tidy_frozen hg) (ok_one (by kernel_rfl) rfl (okWide_bool_mk Try.underlying4 _))⟩

theorem proved : Rows.WideBitsSaid :=
  OpenClaim.holds_of_wide 5 Try.f5 rfl rfl rfl rfl rfl rfl rfl ⟨rfl, rfl, rfl, rfl, rfl⟩ rfl rfl rfl rfl rfl (by kernel_rfl) Try.func5 (by kernel_rfl)
    (of_decide_eq_true (by kernel_rfl)) (by unfold Func.isWrapper; first | (rw [if_pos (by decide +kernel)]; kernel_rfl) | (rw [if_neg (by decide +kernel)]; exact ⟨rfl, rfl⟩))
    (fun os started H enc _ => lifted os started H enc)
end Go.Proofs.Ytaaibjgcbghejaa.wideBits
