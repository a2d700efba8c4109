/-
  The seat's program as the reckoner's table: its functions with bodies, what Add64 and Sub64 answer; and that the table is so.
-/
import Derived.Test.YtaaibjgcbghejabRunH
import Derived.Test.YtaaibjgcbghejabProg
namespace Go.Proofs.Ytaaibjgcbghejab
open Go.KRun

noncomputable def fns : Nat → Option Func
  | 3 => some Try.f3
  | 4 => some Try.f4
  | 5 => some Try.f5
  | 6 => some Try.f6
  | 7 => some Try.f7
  | 8 => some Try.f8
  | 9 => some Try.f9
  | 10 => some Try.f10
  | 11 => some Try.f11
  | 12 => some Try.f12
  | 13 => some Try.f13
  | 14 => some Try.f14
  | 17 => some Try.f17
  | 18 => some Try.f18
  | 19 => some Try.f19
  | 20 => some Try.f20
  | 21 => some Try.f21
  | 22 => some Try.f22
  | 23 => some Try.f23
  | 24 => some Try.f24
  | 25 => some Try.f25
  | 26 => some Try.f26
  | 27 => some Try.f27
  | 28 => some Try.f28
  | 29 => some Try.f29
  | _ => none
theorem fns_ok (f : Nat) (F : Func) (h : fns f = some F) : Try.prog.funcs[f]? = some F ∧ (F.name == "runtime.NumGoroutine") = false := by
  unfold fns at h
  split at h
  · cases h; exact ⟨Try.func3, by kernel_rfl⟩
  · cases h; exact ⟨Try.func4, by kernel_rfl⟩
  · cases h; exact ⟨Try.func5, by kernel_rfl⟩
  · cases h; exact ⟨Try.func6, by kernel_rfl⟩
  · cases h; exact ⟨Try.func7, by kernel_rfl⟩
  · cases h; exact ⟨Try.func8, by kernel_rfl⟩
  · cases h; exact ⟨Try.func9, by kernel_rfl⟩
  · cases h; exact ⟨Try.func10, by kernel_rfl⟩
  · cases h; exact ⟨Try.func11, by kernel_rfl⟩
  · cases h; exact ⟨Try.func12, by kernel_rfl⟩
  · cases h; exact ⟨Try.func13, by kernel_rfl⟩
  · cases h; exact ⟨Try.func14, by kernel_rfl⟩
  · cases h; exact ⟨Try.func17, by kernel_rfl⟩
  · cases h; exact ⟨Try.func18, by kernel_rfl⟩
  · cases h; exact ⟨Try.func19, by kernel_rfl⟩
  · cases h; exact ⟨Try.func20, by kernel_rfl⟩
  · cases h; exact ⟨Try.func21, by kernel_rfl⟩
  · cases h; exact ⟨Try.func22, by kernel_rfl⟩
  · cases h; exact ⟨Try.func23, by kernel_rfl⟩
  · cases h; exact ⟨Try.func24, by kernel_rfl⟩
  · cases h; exact ⟨Try.func25, by kernel_rfl⟩
  · cases h; exact ⟨Try.func26, by kernel_rfl⟩
  · cases h; exact ⟨Try.func27, by kernel_rfl⟩
  · cases h; exact ⟨Try.func28, by kernel_rfl⟩
  · cases h; exact ⟨Try.func29, by kernel_rfl⟩
  · cases h

def extY : Nat → List Value → Option (Value × Log) := fun f vals => if f = 15 then addV vals else if f = 16 then subV vals else none
def extC : Nat → List Value → Option (Value × Log) := fun f vals => if f = 15 then closeV (addV vals) else if f = 16 then closeV (subV vals) else none

theorem add_ext {vals : List Value} {v : Value} {lg : Log} (h : addV vals = some (v, lg)) (hl : okLog lg) (w : World) : (callFunc 15 vals.toArray).run Try.prog w = .ok (.value v) w :=
  addV_run Try.func15 (by kernel_rfl) (by kernel_rfl) (by kernel_rfl) (by kernel_rfl) h hl w
theorem sub_ext {vals : List Value} {v : Value} {lg : Log} (h : subV vals = some (v, lg)) (hl : okLog lg) (w : World) : (callFunc 16 vals.toArray).run Try.prog w = .ok (.value v) w :=
  subV_run (e := (Extern.MathBitsCarry.rows[1]).2) Try.func16 (by kernel_rfl) (by kernel_rfl) (by kernel_rfl) (by kernel_rfl) (by rfl) h hl w

theorem extY_ok (f : Nat) (vals : List Value) (v : Value) (lg : Log) (h : extY f vals = some (v, lg)) (hl : okLog lg) (w : World) : (callFunc f vals.toArray).run Try.prog w = .ok (.value v) w := by
  unfold extY at h
  split at h
  · rename_i hf; subst hf; exact add_ext h hl w
  · split at h
    · rename_i hf; subst hf; exact sub_ext h hl w
    · cases h
theorem extC_ok (f : Nat) (vals : List Value) (v : Value) (lg : Log) (h : extC f vals = some (v, lg)) (_ : okLog lg) (w : World) : (callFunc f vals.toArray).run Try.prog w = .ok (.value v) w := by
  unfold extC at h
  split at h
  · rename_i hf; subst hf; obtain ⟨lg', h1, h2⟩ := closeV_ok h; exact add_ext h1 h2 w
  · split at h
    · rename_i hf; subst hf; obtain ⟨lg', h1, h2⟩ := closeV_ok h; exact sub_ext h1 h2 w
    · cases h

/-- what is known of calls -/
abbrev Con := Nat → List Value → List Dec → Option (Value × List Dec × Log)
structure ConOk (con : Con) : Prop where
  fn : ∀ f vals s v s' lg, con f vals s = some (v, s', lg) → ∃ F, fns f = some F ∧ F.body.isSome = true
  calls : ∀ f vals s v s' lg, con f vals s = some (v, s', lg) → okLog lg → ∀ w, Calls Try.prog f vals.toArray w fun e w' => e = .returned v ∧ Tidy w w'
def conN : Con := fun _ _ _ => none
theorem conN_ok : ConOk conN where
  fn := fun _ _ _ _ _ _ h => by simp [conN] at h
  calls := fun _ _ _ _ _ _ h => by simp [conN] at h

noncomputable def tabY (con : Con) : Tab := { P := Try.prog, fn := fns, ext := extY, con := con, sym := true }
noncomputable def tabC (con : Con) : Tab := { P := Try.prog, fn := fns, ext := extC, con := con, sym := false }
theorem mixed : Try.prog.follows .mixedOrders = true := by kernel_rfl
theorem tabY_ok {con : Con} (h : ConOk con) : TabOk (tabY con) where
  mixed := mixed
  ext := extY_ok
  con := fun f vals s v s' lg hc hl => ⟨by obtain ⟨F, h1, h2⟩ := h.fn f vals s v s' lg hc; exact ⟨F, (fns_ok f F h1).1, (fns_ok f F h1).2, h2⟩, h.calls f vals s v s' lg hc hl⟩
  fn := fns_ok
theorem tabC_ok {con : Con} (h : ConOk con) : TabOk (tabC con) where
  mixed := mixed
  ext := extC_ok
  con := fun f vals s v s' lg hc hl => ⟨by obtain ⟨F, h1, h2⟩ := h.fn f vals s v s' lg hc; exact ⟨F, (fns_ok f F h1).1, (fns_ok f F h1).2, h2⟩, h.calls f vals s v s' lg hc hl⟩
  fn := fns_ok
end Go.Proofs.Ytaaibjgcbghejab
