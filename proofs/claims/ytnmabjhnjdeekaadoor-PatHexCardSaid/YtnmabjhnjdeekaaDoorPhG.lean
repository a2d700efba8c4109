/-
  What PatHex calls, as a table.
-/
import Derived.Test.YtnmabjhnjdeekaaDoorPhF
import Derived.Test.YtnmabjhnjdeekaaDoorPatB
import Derived.Test.YtnmabjhnjdeekaaDoorAsNum
import Derived.Test.YtnmabjhnjdeekaaDoorRunK
namespace Go.Proofs.YtnmabjhnjdeekaaDoor
open Go.KRun Go.Pt
set_option maxRecDepth 100000
set_option linter.unusedVariables false

open Classical in
noncomputable def phB (s : ByteArray) : Bool := decide (phOk s)
theorem phB_ok {s : ByteArray} (h : phOk s) : phB s = true := by
  unfold phB
  simp [h]
/-- told ahead whether the string is a pattern's -/
noncomputable def gPs : Ans := fun vals s =>
  match vals, s with
  | [.string t], .inr (.inr (.inr (.inl d))) :: s' => some (vPh t d, s', [(phB t, d)])
  | _, _ => none
noncomputable def gRs : Ans := fun vals s =>
  match vals, s with
  | [.string t], .inr (.inr (.inr (.inl d))) :: s' => some (vRp t d, s', [(phB t, d)])
  | _, _ => none
theorem gPs_ok : AnsOk 4 gPs := by
  intro vals s v s' lg h hl w
  unfold gPs at h
  split at h
  · rename_i t d s2
    cases h
    have hd : phB t = d := hl _ (List.mem_singleton.2 rfl)
    rw [← hd]
    exact parse_calls t w
  · cases h
theorem gRs_ok : AnsOk 5 gRs := by
  intro vals s v s' lg h hl w
  unfold gRs at h
  split at h
  · rename_i t d s2
    cases h
    have hd : phB t = d := hl _ (List.mem_singleton.2 rfl)
    rw [← hd]
    exact refParse_calls t w
  · cases h
theorem hexA_ok : AnsOk 6 (gU fun p => .string (hxW p)) := gU_ok hex_calls
theorem hexR_ok : AnsOk 7 (gU fun p => .string (hxW p)) := gU_ok refHex_calls
noncomputable def conX : Con := alt 4 gPs (alt 5 gRs (alt 6 (gU fun p => .string (hxW p)) (alt 7 (gU fun p => .string (hxW p)) conP)))
theorem conX_ok : ConOk conX := alt_ok Tryd.func4 rfl gPs_ok (alt_ok Tryd.func5 rfl gRs_ok (alt_ok Tryd.func6 rfl hexA_ok (alt_ok Tryd.func7 rfl hexR_ok conP_ok)))
noncomputable def hcX : Hc := altH 8 gNum hcN
theorem hcX_ok : HcOk hcX := altH_ok Tryd.func8 rfl gNum_ok hcN_ok
end Go.Proofs.YtnmabjhnjdeekaaDoor
