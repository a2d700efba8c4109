/-
  A RUN THAT THE KERNEL RECKONS, VIII: the library's two functions without a body, math/bits.Add64 and Sub64: what they answer.
-/
import Derived.Test.YtfmfcbnhmkkibaaRunG
import Derived.Laws.Externs
namespace Go.KRun
open Go.RowKit

def addV : List Value → Option (Value × Log)
  | [.int .u64 x, .int .u64 y, .int .u64 c] =>
    some (.tuple #[.int .u64 ((x + y + c) % 18446744073709551616), .int .u64 ((x + y + c) / 18446744073709551616)], [(decide (0 ≤ x ∧ 0 ≤ y ∧ 0 ≤ c ∧ c ≤ 1), true)])
  | _ => none
def subV : List Value → Option (Value × Log)
  | [.int .u64 x, .int .u64 y, .int .u64 c] =>
    some (.tuple #[.int .u64 ((x + 18446744073709551616 - y - c) % 18446744073709551616), .int .u64 (if x < y + c then 1 else 0)], [(decide (0 ≤ x ∧ 0 ≤ y ∧ y < 18446744073709551616 ∧ 0 ≤ c ∧ c ≤ 1), true)])
  | _ => none
/-- for a closed run: the tests are reckoned on the spot -/
def closeV : Option (Value × Log) → Option (Value × Log)
  | some (v, lg) => if (lg.all fun p => p.1 == p.2) = true then some (v, []) else none
  | none => none
theorem closeV_ok {r : Option (Value × Log)} {v : Value} {lg : Log} (h : closeV r = some (v, lg)) : ∃ lg', r = some (v, lg') ∧ okLog lg' := by
  unfold closeV at h
  split at h
  · rename_i u lg'
    split at h
    · rename_i hall
      cases h
      exact ⟨lg', rfl, fun x hx => by simpa using List.all_eq_true.1 hall x hx⟩
    · cases h
  · cases h

theorem addV_run {P : Program} {f : Nat} {F : Func} (hf : P.funcs[f]? = some F) (hn : (F.name == "runtime.NumGoroutine") = false) (hb : F.body.isNone = true) (hx : Extern.findNext F = none) (he : Extern.find F = some add64Entry)
    {vals : List Value} {v : Value} {lg : Log} (h : addV vals = some (v, lg)) (hl : okLog lg) (w : World) : (callFunc f vals.toArray).run P w = .ok (.value v) w := by
  unfold addV at h
  split at h
  · rename_i x y c
    cases h
    have := hl _ (List.mem_singleton.2 rfl)
    simp only [decide_eq_true_eq] at this
    rw [run_callFunc_extern hf hn hb hx he, run_add64 x y c this.1 this.2.1 this.2.2.1 this.2.2.2]
    rfl
  · cases h

theorem sub64_run {P : Program} {e : Array Value → Sem Value} (he : (Extern.MathBitsCarry.rows[1]?).map Prod.snd = some e) (x y c : Int) (hx : 0 ≤ x) (hy : 0 ≤ y) (hy' : y < 18446744073709551616) (hc0 : 0 ≤ c) (hc : c ≤ 1) (w : World) :
    (e #[.int .u64 x, .int .u64 y, .int .u64 c]).run P w = .ok (.tuple #[.int .u64 ((x + 18446744073709551616 - y - c) % 18446744073709551616), .int .u64 (if x < y + c then 1 else 0)]) w := by
  simp only [Extern.MathBitsCarry.rows, List.getElem?_cons_succ, List.getElem?_cons_zero, Option.map_some, Option.some.injEq] at he
  subst he
  have key : ∀ k : Nat, k ≤ 1 → (Extern.MathBitsCarry.three "Sub64" #[.int .u64 x, .int .u64 y, .int .u64 (k : Int)]).run P w = .ok (x.toNat, y.toNat, k) w := by
    intro k hk
    have : k = 0 ∨ k = 1 := by omega
    rcases this with rfl | rfl <;> rfl
  obtain ⟨k, rfl⟩ := Int.eq_ofNat_of_zero_le hc0
  rw [Sem.run_bind, key k (by omega)]
  simp only [Result.andThen_ok, Sem.run_pure]
  obtain ⟨X, rfl⟩ := Int.eq_ofNat_of_zero_le hx
  obtain ⟨Y, rfl⟩ := Int.eq_ofNat_of_zero_le hy
  have e1 : Int.ofNat (((X + Extern.MathBitsCarry.m64 - Y - k) % Extern.MathBitsCarry.m64)) = ((X : Int) + 18446744073709551616 - Y - k) % 18446744073709551616 := by
    simp only [Extern.MathBitsCarry.m64, Int.ofNat_eq_natCast]
    omega
  have e2 : Int.ofNat (if X < Y + k then 1 else 0) = (if (X : Int) < Y + k then 1 else 0) := by
    by_cases h : X < Y + k
    · rw [if_pos h, if_pos (by omega)]; rfl
    · rw [if_neg h, if_neg (by omega)]; rfl
  simp only [Extern.MathBitsCarry.pair, Int.toNat_natCast, e1, e2]

theorem subV_run {P : Program} {f : Nat} {F : Func} {e : Array Value → Sem Value} (hf : P.funcs[f]? = some F) (hn : (F.name == "runtime.NumGoroutine") = false) (hb : F.body.isNone = true) (hx : Extern.findNext F = none) (he : Extern.find F = some e)
    (he' : (Extern.MathBitsCarry.rows[1]?).map Prod.snd = some e) {vals : List Value} {v : Value} {lg : Log} (h : subV vals = some (v, lg)) (hl : okLog lg) (w : World) : (callFunc f vals.toArray).run P w = .ok (.value v) w := by
  unfold subV at h
  split at h
  · rename_i x y c
    cases h
    have := hl _ (List.mem_singleton.2 rfl)
    simp only [decide_eq_true_eq] at this
    rw [run_callFunc_extern hf hn hb hx he, sub64_run he' x y c this.1 this.2.1 this.2.2.1 this.2.2.2.1 this.2.2.2.2]
    rfl
  · cases h
end Go.KRun
