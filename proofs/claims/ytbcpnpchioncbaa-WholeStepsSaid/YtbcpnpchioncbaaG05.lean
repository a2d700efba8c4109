/-
  A RUN THAT THE KERNEL RECKONS, VIII: the library's two functions without a body, math/bits.Add64 and Sub64: what they answer.
-/
import Derived.Test.YtbcpnpchioncbaaG04
import Derived.Laws.Externs
import Derived.Test.YtbcpnpchioncbaaProg
namespace Go.KRun
open Go.RowKit

def addV : List Value → Option (Value × Log)
  | [.int .u64 x, .int .u64 y, .int .u64 c] =>
    some (.tuple #[.int .u64 ((x + y + c) % 18446744073709551616), .int .u64 ((x + y + c) / 18446744073709551616)], [(decide (0 ≤ x ∧ 0 ≤ y ∧ 0 ≤ c ∧ c ≤ 1), true)])
  | _ => none
def subV : List Value → Option (Value × Log)
  | [.int .u64 x, .int .u64 y, .int .u64 c] =>
    some (.tuple #[.int .u64 ((x + 18446744073709551616 - y - c) % 18446744073709551616), .int .u64 (if x < y + c then 1 else 0)], [(decide (0 ≤ x ∧ 0 ≤ y ∧ y < 18446744073709551616 ∧ 0 ≤ c ∧ c ≤ 1), true)])
  | _ => none
/-- for a closed run: the tests are reckoned on the spot -/
def closeV : Option (Value × Log) → Option (Value × Log)
  | some (v, lg) => if (lg.all fun p => p.1 == p.2) = true then some (v, []) else none
  | none => none
theorem closeV_ok {r : Option (Value × Log)} {v : Value} {lg : Log} (h : closeV r = some (v, lg)) : ∃ lg', r = some (v, lg') ∧ okLog lg' := by
  unfold closeV at h
  split at h
  · rename_i u lg'
    split at h
    · rename_i hall
      cases h
      exact ⟨lg', rfl, fun x hx => by simpa using List.all_eq_true.1 hall x hx⟩
    · cases h
  · cases h

theorem addV_run {P : Program} {f : Nat} {F : Func} (hf : P.funcs[f]? = some F) (hn : (F.name == "runtime.NumGoroutine") = false) (hb : F.body.isNone = true) (hx : Extern.findNext F = none) (he : Extern.find F = some add64Entry)
    {vals : List Value} {v : Value} {lg : Log} (h : addV vals = some (v, lg)) (hl : okLog lg) (w : World) : (callFunc f vals.toArray).run P w = .ok (.value v) w := by
  unfold addV at h
  split at h
  · rename_i x y c
    cases h
    have := hl _ (List.mem_singleton.2 rfl)
    simp only [decide_eq_true_eq] at this
    rw [run_callFunc_extern hf hn hb hx he, run_add64 x y c this.1 this.2.1 this.2.2.1 this.2.2.2]
    rfl
  · cases h

theorem sub64_run {P : Program} {e : Array Value → Sem Value} (he : (Extern.MathBitsCarry.rows[1]?).map Prod.snd = some e) (x y c : Int) (hx : 0 ≤ x) (hy : 0 ≤ y) (hy' : y < 18446744073709551616) (hc0 : 0 ≤ c) (hc : c ≤ 1) (w : World) :
    (e #[.int .u64 x, .int .u64 y, .int .u64 c]).run P w = .ok (.tuple #[.int .u64 ((x + 18446744073709551616 - y - c) % 18446744073709551616), .int .u64 (if x < y + c then 1 else 0)]) w := by
  simp only [Extern.MathBitsCarry.rows, List.getElem?_cons_succ, List.getElem?_cons_zero, Option.map_some, Option.some.injEq] at he
  subst he
  have key : ∀ k : Nat, k ≤ 1 → (Extern.MathBitsCarry.three "Sub64" #[.int .u64 x, .int .u64 y, .int .u64 (k : Int)]).run P w = .ok (x.toNat, y.toNat, k) w := by
    intro k hk
    have : k = 0 ∨ k = 1 := by omega
    rcases this with rfl | rfl <;> rfl
  obtain ⟨k, rfl⟩ := Int.eq_ofNat_of_zero_le hc0
  rw [Sem.run_bind, key k (by omega)]
  simp only [Result.andThen_ok, Sem.run_pure]
  obtain ⟨X, rfl⟩ := Int.eq_ofNat_of_zero_le hx
  obtain ⟨Y, rfl⟩ := Int.eq_ofNat_of_zero_le hy
  have e1 : Int.ofNat (((X + Extern.MathBitsCarry.m64 - Y - k) % Extern.MathBitsCarry.m64)) = ((X : Int) + 18446744073709551616 - Y - k) % 18446744073709551616 := by
    simp only [Extern.MathBitsCarry.m64, Int.ofNat_eq_natCast]
    omega
  have e2 : Int.ofNat (if X < Y + k then 1 else 0) = (if (X : Int) < Y + k then 1 else 0) := by
    by_cases h : X < Y + k
    · rw [if_pos h, if_pos (by omega)]; rfl
    · rw [if_neg h, if_neg (by omega)]; rfl
  simp only [Extern.MathBitsCarry.pair, Int.toNat_natCast, e1, e2]

theorem subV_run {P : Program} {f : Nat} {F : Func} {e : Array Value → Sem Value} (hf : P.funcs[f]? = some F) (hn : (F.name == "runtime.NumGoroutine") = false) (hb : F.body.isNone = true) (hx : Extern.findNext F = none) (he : Extern.find F = some e)
    (he' : (Extern.MathBitsCarry.rows[1]?).map Prod.snd = some e) {vals : List Value} {v : Value} {lg : Log} (h : subV vals = some (v, lg)) (hl : okLog lg) (w : World) : (callFunc f vals.toArray).run P w = .ok (.value v) w := by
  unfold subV at h
  split at h
  · rename_i x y c
    cases h
    have := hl _ (List.mem_singleton.2 rfl)
    simp only [decide_eq_true_eq] at this
    rw [run_callFunc_extern hf hn hb hx he, sub64_run he' x y c this.1 this.2.1 this.2.2.1 this.2.2.2.1 this.2.2.2.2]
    rfl
  · cases h
end Go.KRun

/-
  The seat's program as the reckoner's table: its functions with bodies, what Add64 and Sub64 answer; and that the table is so.
-/
namespace Go.Proofs.Ytbcpnpchioncbaa
open Go.KRun

theorem names : (Try.prog.funcs.toList.all fun F => !(F.name == "runtime.NumGoroutine")) = true := by kernel_rfl
theorem fns_ok (f : Nat) (F : Func) (h : Try.prog.funcs[f]? = some F) : Try.prog.funcs[f]? = some F ∧ (F.name == "runtime.NumGoroutine") = false :=
  ⟨h, by simpa using List.all_eq_true.1 names F (by simpa using Array.mem_of_getElem? h)⟩

def extY : Nat → List Value → Option (Value × Log) := fun f vals => if f = 84 then addV vals else if f = 69 then subV vals else none
def extC : Nat → List Value → Option (Value × Log) := fun f vals => if f = 84 then closeV (addV vals) else if f = 69 then closeV (subV vals) else none

theorem add_ext {vals : List Value} {v : Value} {lg : Log} (h : addV vals = some (v, lg)) (hl : okLog lg) (w : World) : (callFunc 84 vals.toArray).run Try.prog w = .ok (.value v) w :=
  addV_run Try.func84 (by kernel_rfl) (by kernel_rfl) (by kernel_rfl) (by kernel_rfl) h hl w
theorem sub_ext {vals : List Value} {v : Value} {lg : Log} (h : subV vals = some (v, lg)) (hl : okLog lg) (w : World) : (callFunc 69 vals.toArray).run Try.prog w = .ok (.value v) w :=
  subV_run (e := (Extern.MathBitsCarry.rows[1]).2) Try.func69 (by kernel_rfl) (by kernel_rfl) (by kernel_rfl) (by kernel_rfl) (by rfl) h hl w

theorem extY_ok (f : Nat) (vals : List Value) (v : Value) (lg : Log) (h : extY f vals = some (v, lg)) (hl : okLog lg) (w : World) : (callFunc f vals.toArray).run Try.prog w = .ok (.value v) w := by
  unfold extY at h
  split at h
  · rename_i hf; subst hf; exact add_ext h hl w
  · split at h
    · rename_i hf; subst hf; exact sub_ext h hl w
    · cases h
theorem extC_ok (f : Nat) (vals : List Value) (v : Value) (lg : Log) (h : extC f vals = some (v, lg)) (_ : okLog lg) (w : World) : (callFunc f vals.toArray).run Try.prog w = .ok (.value v) w := by
  unfold extC at h
  split at h
  · rename_i hf; subst hf; obtain ⟨lg', h1, h2⟩ := closeV_ok h; exact add_ext h1 h2 w
  · split at h
    · rename_i hf; subst hf; obtain ⟨lg', h1, h2⟩ := closeV_ok h; exact sub_ext h1 h2 w
    · cases h
/-- what is known of calls -/
abbrev Con := Nat → List Value → List Dec → Option (Value × List Dec × Log)
structure ConOk (con : Con) : Prop where
  fn : ∀ f vals s v s' lg, con f vals s = some (v, s', lg) → ∃ F, Try.prog.funcs[f]? = some F ∧ F.body.isSome = true
  calls : ∀ f vals s v s' lg, con f vals s = some (v, s', lg) → okLog lg → ∀ w, Calls Try.prog f vals.toArray w fun e w' => e = .returned v ∧ Tidy w w'
def conN : Con := fun _ _ _ => none
theorem conN_ok : ConOk conN where
  fn := fun _ _ _ _ _ _ h => by simp [conN] at h
  calls := fun _ _ _ _ _ _ h => by simp [conN] at h

/-- the table of a program: 'sym': numbers may be letters -/
def tabOf (P : Program) (ext : Nat → List Value → Option (Value × Log)) (con : Con) (sym : Bool) : Tab := { P := P, fn := fun f => P.funcs[f]?, ext := ext, con := con, sym := sym }
theorem mixed : Try.prog.follows .mixedOrders = true := by kernel_rfl
theorem tabY_ok {con : Con} (h : ConOk con) : TabOk (tabOf Try.prog extY con true) where
  mixed := mixed
  ext := extY_ok
  con := fun f vals s v s' lg hc hl => ⟨by obtain ⟨F, h1, h2⟩ := h.fn f vals s v s' lg hc; exact ⟨F, (fns_ok f F h1).1, (fns_ok f F h1).2, h2⟩, h.calls f vals s v s' lg hc hl⟩
  fn := fns_ok
  hc := fun _ _ _ _ _ _ _ _ h => by cases h
theorem tabC_ok {con : Con} (h : ConOk con) : TabOk (tabOf Try.prog extC con false) where
  mixed := mixed
  ext := extC_ok
  con := fun f vals s v s' lg hc hl => ⟨by obtain ⟨F, h1, h2⟩ := h.fn f vals s v s' lg hc; exact ⟨F, (fns_ok f F h1).1, (fns_ok f F h1).2, h2⟩, h.calls f vals s v s' lg hc hl⟩
  fn := fns_ok
  hc := fun _ _ _ _ _ _ _ _ h => by cases h
abbrev Ans := List Value → List Dec → Option (Value × List Dec × Log)
def AnsOk (f : Nat) (g : Ans) : Prop := ∀ vals s v s' lg, g vals s = some (v, s', lg) → okLog lg → ∀ w, Calls Try.prog f vals.toArray w fun e w' => e = .returned v ∧ Tidy w w'
def alt (f : Nat) (g : Ans) (rest : Con) : Con := fun f' vals s => if f' = f then g vals s else rest f' vals s
theorem alt_ok {f : Nat} {g : Ans} {rest : Con} {F : Func} (hf : Try.prog.funcs[f]? = some F) (hb : F.body.isSome = true) (hg : AnsOk f g) (hr : ConOk rest) : ConOk (alt f g rest) where
  fn := fun f' vals s v s' lg h => by
    unfold alt at h
    split at h
    · rename_i he; subst he; exact ⟨F, hf, hb⟩
    · exact hr.fn _ _ _ _ _ _ h
  calls := fun f' vals s v s' lg h hl w => by
    unfold alt at h
    split at h
    · rename_i he; subst he; exact hg _ _ _ _ _ h hl w
    · exact hr.calls _ _ _ _ _ _ h hl w
end Go.Proofs.Ytbcpnpchioncbaa
