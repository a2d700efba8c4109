/-
  The seat's program as the reckoner's table: its functions with bodies, what Add64 and Sub64 answer; and that the table is so.
-/
import Derived.Test.YteglhjkpcljpmaaG03
import Derived.Test.YteglhjkpcljpmaaProg
namespace Go.Proofs.Yteglhjkpcljpmaa
open Go.KRun

theorem names : (Try.prog.funcs.toList.all fun F => !(F.name == "runtime.NumGoroutine")) = true := by kernel_rfl
theorem fns_ok (f : Nat) (F : Func) (h : Try.prog.funcs[f]? = some F) : Try.prog.funcs[f]? = some F ∧ (F.name == "runtime.NumGoroutine") = false :=
  ⟨h, by simpa using List.all_eq_true.1 names F (by simpa using Array.mem_of_getElem? h)⟩

def extY : Nat → List Value → Option (Value × Log) := fun f vals => if f = 73 then addV vals else none
def extC : Nat → List Value → Option (Value × Log) := fun f vals => if f = 73 then closeV (addV vals) else none

theorem add_ext {vals : List Value} {v : Value} {lg : Log} (h : addV vals = some (v, lg)) (hl : okLog lg) (w : World) : (callFunc 73 vals.toArray).run Try.prog w = .ok (.value v) w :=
  addV_run Try.func73 (by kernel_rfl) (by kernel_rfl) (by kernel_rfl) (by kernel_rfl) h hl w
theorem extY_ok (f : Nat) (vals : List Value) (v : Value) (lg : Log) (h : extY f vals = some (v, lg)) (hl : okLog lg) (w : World) : (callFunc f vals.toArray).run Try.prog w = .ok (.value v) w := by
  unfold extY at h
  split at h
  · rename_i hf; subst hf; exact add_ext h hl w
  · cases h
theorem extC_ok (f : Nat) (vals : List Value) (v : Value) (lg : Log) (h : extC f vals = some (v, lg)) (_ : okLog lg) (w : World) : (callFunc f vals.toArray).run Try.prog w = .ok (.value v) w := by
  unfold extC at h
  split at h
  · rename_i hf; subst hf; obtain ⟨lg', h1, h2⟩ := closeV_ok h; exact add_ext h1 h2 w
  · cases h
/-- what is known of calls -/
abbrev Con := Nat → List Value → List Dec → Option (Value × List Dec × Log)
structure ConOk (con : Con) : Prop where
  fn : ∀ f vals s v s' lg, con f vals s = some (v, s', lg) → ∃ F, Try.prog.funcs[f]? = some F ∧ F.body.isSome = true
  calls : ∀ f vals s v s' lg, con f vals s = some (v, s', lg) → okLog lg → ∀ w, Calls Try.prog f vals.toArray w fun e w' => e = .returned v ∧ Tidy w w'
def conN : Con := fun _ _ _ => none
theorem conN_ok : ConOk conN where
  fn := fun _ _ _ _ _ _ h => by simp [conN] at h
  calls := fun _ _ _ _ _ _ h => by simp [conN] at h

/-- the table of a program: 'sym': numbers may be letters -/
def tabOf (P : Program) (ext : Nat → List Value → Option (Value × Log)) (con : Con) (sym : Bool) : Tab := { P := P, fn := fun f => P.funcs[f]?, ext := ext, con := con, sym := sym }
theorem mixed : Try.prog.follows .mixedOrders = true := by kernel_rfl
theorem tabY_ok {con : Con} (h : ConOk con) : TabOk (tabOf Try.prog extY con true) where
  mixed := mixed
  ext := extY_ok
  con := fun f vals s v s' lg hc hl => ⟨by obtain ⟨F, h1, h2⟩ := h.fn f vals s v s' lg hc; exact ⟨F, (fns_ok f F h1).1, (fns_ok f F h1).2, h2⟩, h.calls f vals s v s' lg hc hl⟩
  fn := fns_ok
  hc := fun _ _ _ _ _ _ _ _ h => by cases h
theorem tabC_ok {con : Con} (h : ConOk con) : TabOk (tabOf Try.prog extC con false) where
  mixed := mixed
  ext := extC_ok
  con := fun f vals s v s' lg hc hl => ⟨by obtain ⟨F, h1, h2⟩ := h.fn f vals s v s' lg hc; exact ⟨F, (fns_ok f F h1).1, (fns_ok f F h1).2, h2⟩, h.calls f vals s v s' lg hc hl⟩
  fn := fns_ok
  hc := fun _ _ _ _ _ _ _ _ h => by cases h
abbrev Ans := List Value → List Dec → Option (Value × List Dec × Log)
def AnsOk (f : Nat) (g : Ans) : Prop := ∀ vals s v s' lg, g vals s = some (v, s', lg) → okLog lg → ∀ w, Calls Try.prog f vals.toArray w fun e w' => e = .returned v ∧ Tidy w w'
def alt (f : Nat) (g : Ans) (rest : Con) : Con := fun f' vals s => if f' = f then g vals s else rest f' vals s
theorem alt_ok {f : Nat} {g : Ans} {rest : Con} {F : Func} (hf : Try.prog.funcs[f]? = some F) (hb : F.body.isSome = true) (hg : AnsOk f g) (hr : ConOk rest) : ConOk (alt f g rest) where
  fn := fun f' vals s v s' lg h => by
    unfold alt at h
    split at h
    · rename_i he; subst he; exact ⟨F, hf, hb⟩
    · exact hr.fn _ _ _ _ _ _ h
  calls := fun f' vals s v s' lg h hl w => by
    unfold alt at h
    split at h
    · rename_i he; subst he; exact hg _ _ _ _ _ h hl w
    · exact hr.calls _ _ _ _ _ _ h hl w
end Go.Proofs.Yteglhjkpcljpmaa

/-
  PLAIN ARITHMETIC: four words of 64 bits and the number that they are. No program is named here.
-/
namespace Go.Wd

structure W4 where
  a : Int
  b : Int
  c : Int
  d : Int

def W4.val (x : W4) : Int := x.a + 18446744073709551616 * x.b + 340282366920938463463374607431768211456 * x.c + 6277101735386680763835789423207666416102355444464034512896 * x.d
abbrev W4.ok (x : W4) : Prop := (0 ≤ x.a ∧ x.a < 18446744073709551616) ∧ (0 ≤ x.b ∧ x.b < 18446744073709551616) ∧ (0 ≤ x.c ∧ x.c < 18446744073709551616) ∧ (0 ≤ x.d ∧ x.d < 18446744073709551616)
/-- the lowest 256 bits of a number -/
def W4.of (n : Int) : W4 :=
  ⟨n % 18446744073709551616, n / 18446744073709551616 % 18446744073709551616, n / 340282366920938463463374607431768211456 % 18446744073709551616, n / 6277101735386680763835789423207666416102355444464034512896 % 18446744073709551616⟩

def eqW (x y : W4) : Bool := x.a == y.a && (x.b == y.b && (x.c == y.c && (x.d == y.d && true)))
theorem eqW_iff {x y : W4} : eqW x y = true ↔ x = y := by
  cases x; cases y; simp [eqW]
theorem W4.ext' {x y : W4} (h1 : x.a = y.a) (h2 : x.b = y.b) (h3 : x.c = y.c) (h4 : x.d = y.d) : x = y := by
  cases x; cases y; simp_all

theorem W4.ok_of (n : Int) : (W4.of n).ok := by
  unfold W4.of W4.ok
  refine ⟨⟨?_, ?_⟩, ⟨?_, ?_⟩, ⟨?_, ?_⟩, ⟨?_, ?_⟩⟩ <;> dsimp only <;> omega
theorem W4.of_val {x : W4} (h : x.ok) : W4.of x.val = x := by
  obtain ⟨a, b, c, d⟩ := x
  unfold W4.ok at h
  unfold W4.val W4.of
  dsimp only at *
  refine W4.ext' ?_ ?_ ?_ ?_ <;> dsimp only <;> omega
theorem W4.val_of (n : Int) : (W4.of n).val = n % 115792089237316195423570985008687907853269984665640564039457584007913129639936 := by
  unfold W4.val W4.of
  dsimp only
  omega
theorem W4.val_bd {x : W4} (h : x.ok) : 0 ≤ x.val ∧ x.val < 115792089237316195423570985008687907853269984665640564039457584007913129639936 := by
  obtain ⟨a, b, c, d⟩ := x
  unfold W4.ok at h
  unfold W4.val
  dsimp only at *
  omega
theorem W4.val_inj {x y : W4} (hx : x.ok) (hy : y.ok) (h : x.val = y.val) : x = y := by
  rw [← W4.of_val hx, ← W4.of_val hy, h]

/-! ### a sum -/
def ad (x y c : Int) : Int := (x + y + c) % 18446744073709551616
def ca (x y c : Int) : Int := (x + y + c) / 18446744073709551616
def addR (x y : W4) : W4 := ⟨ad x.a y.a 0, ad x.b y.b (ca x.a y.a 0), ad x.c y.c (ca x.b y.b (ca x.a y.a 0)), ad x.d y.d (ca x.c y.c (ca x.b y.b (ca x.a y.a 0)))⟩
def addC (x y : W4) : Int := ca x.d y.d (ca x.c y.c (ca x.b y.b (ca x.a y.a 0)))
theorem addR_eq {x y : W4} (hx : x.ok) (hy : y.ok) : addR x y = W4.of (x.val + y.val) := by
  obtain ⟨a, b, c, d⟩ := x
  obtain ⟨a', b', c', d'⟩ := y
  unfold W4.ok at hx hy
  unfold W4.val W4.of addR ad ca
  dsimp only at *
  refine W4.ext' ?_ ?_ ?_ ?_ <;> dsimp only <;> omega
theorem addC_eq {x y : W4} (hx : x.ok) (hy : y.ok) : (addC x y != 0) = decide (115792089237316195423570985008687907853269984665640564039457584007913129639936 ≤ x.val + y.val) := by
  obtain ⟨a, b, c, d⟩ := x
  obtain ⟨a', b', c', d'⟩ := y
  unfold W4.ok at hx hy
  unfold W4.val addC ca
  dsimp only at *
  rw [Bool.eq_iff_iff]
  simp only [bne_iff_ne, ne_eq, decide_eq_true_eq]
  omega

/-! ### a difference -/
def sb (x y c : Int) : Int := (x + 18446744073709551616 - y - c) % 18446744073709551616
def bo (x y c : Int) : Int := if x < y + c then 1 else 0
def subR (x y : W4) : W4 := ⟨sb x.a y.a 0, sb x.b y.b (bo x.a y.a 0), sb x.c y.c (bo x.b y.b (bo x.a y.a 0)), sb x.d y.d (bo x.c y.c (bo x.b y.b (bo x.a y.a 0)))⟩
def subC (x y : W4) : Int := bo x.d y.d (bo x.c y.c (bo x.b y.b (bo x.a y.a 0)))
theorem bo_01 (x y c : Int) : bo x y c = 0 ∨ bo x y c = 1 := by unfold bo; split <;> simp
theorem bo_spec (x y c : Int) : (bo x y c = 1 ∧ x < y + c) ∨ (bo x y c = 0 ∧ y + c ≤ x) := by unfold bo; split <;> omega
theorem subR_eq {x y : W4} (hx : x.ok) (hy : y.ok) : subR x y = W4.of (x.val - y.val) := by
  obtain ⟨a, b, c, d⟩ := x
  obtain ⟨a', b', c', d'⟩ := y
  unfold W4.ok at hx hy
  unfold W4.val W4.of subR sb
  dsimp only at *
  have h1 := bo_spec a a' 0
  have h2 := bo_spec b b' (bo a a' 0)
  have h3 := bo_spec c c' (bo b b' (bo a a' 0))
  generalize bo c c' (bo b b' (bo a a' 0)) = k3 at *
  generalize bo b b' (bo a a' 0) = k2 at *
  generalize bo a a' 0 = k1 at *
  refine W4.ext' ?_ ?_ ?_ ?_ <;> dsimp only <;> omega
theorem subC_eq {x y : W4} (hx : x.ok) (hy : y.ok) : (subC x y != 0) = decide (x.val < y.val) := by
  obtain ⟨a, b, c, d⟩ := x
  obtain ⟨a', b', c', d'⟩ := y
  unfold W4.ok at hx hy
  unfold W4.val subC
  dsimp only at *
  have h1 := bo_spec a a' 0
  have h2 := bo_spec b b' (bo a a' 0)
  have h3 := bo_spec c c' (bo b b' (bo a a' 0))
  have h4 := bo_spec d d' (bo c c' (bo b b' (bo a a' 0)))
  generalize bo d d' (bo c c' (bo b b' (bo a a' 0))) = k4 at *
  generalize bo c c' (bo b b' (bo a a' 0)) = k3 at *
  generalize bo b b' (bo a a' 0) = k2 at *
  generalize bo a a' 0 = k1 at *
  rw [Bool.eq_iff_iff]
  simp only [bne_iff_ne, ne_eq, decide_eq_true_eq]
  omega
end Go.Wd

/-
  Sums, differences and the order of the seat's program, as calls: what wide.Add, wide.Sub and wide.Cmp answer of any two numbers, in every world.
-/
namespace Go.Proofs.Yteglhjkpcljpmaa
open Go.KRun Go.Wd

def vW (x : W4) : Value := .agg #[.int .u64 x.a, .int .u64 x.b, .int .u64 x.c, .int .u64 x.d]
def w4 : Value → Option W4
  | .agg cs =>
    match cs.toList with
    | [.int .u64 a, .int .u64 b, .int .u64 c, .int .u64 d] => some ⟨a, b, c, d⟩
    | _ => none
  | _ => none
theorem w4_spec {v : Value} {x : W4} (h : w4 v = some x) : v = vW x := by
  unfold w4 at h
  split at h
  · rename_i cs
    split at h
    · rename_i a b c d hc
      cases h
      obtain ⟨l⟩ := cs
      simp only at hc
      subst hc
      rfl
    · cases h
  · cases h

/-- of two numbers -/
def g2 (k : W4 → W4 → List Dec → Option (Value × List Dec × Log)) : Ans := fun vals s =>
  match vals with
  | [x, y] =>
    match w4 x, w4 y with
    | some a, some b =>
      match k a b s with
      | some r => some (r.1, r.2.1, (decide (a.ok ∧ b.ok), true) :: r.2.2)
      | none => none
    | _, _ => none
  | _ => none
theorem g2_ok {f : Nat} {k : W4 → W4 → List Dec → Option (Value × List Dec × Log)}
    (hk : ∀ x y : W4, x.ok → y.ok → ∀ s v s' lg, k x y s = some (v, s', lg) → okLog lg → ∀ w, Calls Try.prog f #[vW x, vW y] w fun e w' => e = .returned v ∧ Tidy w w') : AnsOk f (g2 k) := by
  intro vals s v s' lg h hl w
  unfold g2 at h
  split at h
  · split at h
    · rename_i a b ha hb
      split at h
      · rename_i r hr
        cases h
        have h1 := hl _ (List.mem_cons_self)
        simp only [decide_eq_true_eq] at h1
        rw [w4_spec ha, w4_spec hb]
        exact hk a b h1.1 h1.2 s r.1 r.2.1 r.2.2 hr (fun p hp => hl p (List.mem_cons_of_mem _ hp)) w
      · cases h
    · cases h
  · cases h
/-- an answer that is told outright -/
def plain2 (k : W4 → W4 → Value) : W4 → W4 → List Dec → Option (Value × List Dec × Log) := fun x y s => some (k x y, s, [])
theorem plain2_ok {f : Nat} {k : W4 → W4 → Value} (hk : ∀ x y : W4, x.ok → y.ok → ∀ w, Calls Try.prog f #[vW x, vW y] w fun e w' => e = .returned (k x y) ∧ Tidy w w') : AnsOk f (g2 (plain2 k)) :=
  g2_ok fun x y hx hy s v s' lg h _ w => by
    unfold plain2 at h
    cases h
    exact hk x y hx hy w
/-- a number that is decided ahead -/
def pickN (n : Int) : List Dec → Int × List Dec × Log
  | .inr (.inl k) :: s => (k, s, [(decide (n = k), true)])
  | s => (n, s, [])
theorem pickN_ok {n : Int} {s : List Dec} (h : okLog (pickN n s).2.2) : (pickN n s).1 = n := by
  unfold pickN at *
  split at h
  · rename_i d s
    have := h _ (List.mem_singleton.2 rfl)
    simp only [decide_eq_true_eq] at this
    exact this.symm
  · rfl

theorem okNil : okLog [] := fun _ h => by cases h

/-! ### Add -/
def okA (x y c : Int) : Bool × Bool := (decide (0 ≤ x ∧ 0 ≤ y ∧ 0 ≤ c ∧ c ≤ 1), true)
theorem add_fits (x y : W4) : Fits (reckon (tabOf Try.prog extY conN true) 3000 72 [vW x, vW y] []) (.tuple #[vW (addR x y), .bool (addC x y != 0)])
    [okA x.d y.d (ca x.c y.c (ca x.b y.b (ca x.a y.a 0))), okA x.c y.c (ca x.b y.b (ca x.a y.a 0)), okA x.b y.b (ca x.a y.a 0), okA x.a y.a 0] := ⟨by kernel_rfl, by kernel_rfl, by kernel_rfl, by kernel_rfl⟩
def addV4 (x y : W4) : Value := .tuple #[vW (W4.of (x.val + y.val)), .bool (decide (115792089237316195423570985008687907853269984665640564039457584007913129639936 ≤ x.val + y.val))]
theorem add_calls (x y : W4) (hx : x.ok) (hy : y.ok) (w : World) : Calls Try.prog 72 #[vW x, vW y] w fun e w' => e = .returned (addV4 x y) ∧ Tidy w w' := by
  have h := fits_calls (tabY_ok conN_ok) (add_fits x y) (by
    obtain ⟨h1, h2, h3, h4⟩ := hx
    obtain ⟨k1, k2, k3, k4⟩ := hy
    have b1 : 0 ≤ ca x.a y.a 0 ∧ ca x.a y.a 0 ≤ 1 := by unfold ca; omega
    have b2 : 0 ≤ ca x.b y.b (ca x.a y.a 0) ∧ ca x.b y.b (ca x.a y.a 0) ≤ 1 := by generalize ca x.a y.a 0 = k at *; unfold ca; omega
    have b3 : 0 ≤ ca x.c y.c (ca x.b y.b (ca x.a y.a 0)) ∧ ca x.c y.c (ca x.b y.b (ca x.a y.a 0)) ≤ 1 := by generalize ca x.b y.b (ca x.a y.a 0) = k at *; unfold ca; omega
    intro p hp
    simp only [List.mem_cons, List.not_mem_nil, or_false] at hp
    rcases hp with rfl | rfl | rfl | rfl <;> simp only [okA, decide_eq_true_eq] <;> omega) (by rfl) (by rfl) w
  rw [addR_eq hx hy, addC_eq hx hy] at h
  exact h

end Go.Proofs.Yteglhjkpcljpmaa
