/-
  PLAIN ARITHMETIC: a product of digits to the base 65536, row by row.
-/
import Derived.Test.YtnolcojnodoecaaG10
import Derived.Test.YtnolcojnodoecaaG01
import Derived.Test.YtnolcojnodoecaaG09
namespace Go.Nt

theorem vb_set {b : Nat} : ∀ {L : List Int} {j : Nat}, j < L.length → ∀ v : Int, vb b (L.set j v) + b ^ j * (L.getD j 0).toNat = vb b L + b ^ j * v.toNat
  | [], _, h, _ => by simp at h
  | x :: L, 0, _, v => by simp [vb]; omega
  | x :: L, j + 1, h, v => by
    have ih := vb_set (b := b) (L := L) (j := j) (by simpa using h) v
    have e : (x :: L).getD (j + 1) 0 = L.getD j 0 := by simp [List.getD]
    simp only [List.set, vb, e]
    have h2 := congrArg (fun t => b * t) ih
    simp only [Nat.mul_add] at h2
    rw [Nat.pow_succ, Nat.mul_comm (b ^ j) b, Nat.mul_assoc, Nat.mul_assoc]
    omega
theorem set_dg {L : List Int} (h : ∀ x ∈ L, Dg 65536 x) {v : Int} (hv : Dg 65536 v) (j : Nat) : ∀ x ∈ L.set j v, Dg 65536 x := fun x hx => by
  rcases List.mem_or_eq_of_mem_set hx with hx | rfl
  · exact h x hx
  · exact hv
/-- one step: what is carried, a digit and a product -/
theorem mul_step {L : List Int} {j : Nat} (hj : j < L.length) (hL : ∀ x ∈ L, Dg 65536 x) {c p q : Nat} (hc : c < 65536) (hp : p < 65536) (hq : q < 65536) :
    let t := c + (L.getD j 0).toNat + p * q
    vb 65536 (L.set j ((t % 65536 : Nat) : Int)) + t / 65536 * 65536 ^ (j + 1) = vb 65536 L + c * 65536 ^ j + p * q * 65536 ^ j ∧ t / 65536 < 65536 ∧ (∀ x ∈ L.set j ((t % 65536 : Nat) : Int), Dg 65536 x) := by
  intro t
  have hd : (L.getD j 0).toNat < 65536 := dg_lt hL j
  have hpq : p * q ≤ 65535 * 65535 := Nat.mul_le_mul (by omega) (by omega)
  have ht : t = c + (L.getD j 0).toNat + p * q := rfl
  refine ⟨?_, by omega, set_dg hL ⟨by omega, by omega⟩ j⟩
  have h1 := vb_set (b := 65536) hj ((t % 65536 : Nat) : Int)
  rw [Int.toNat_natCast] at h1
  have h2 := Nat.div_add_mod t 65536
  have h3 : 65536 ^ j * t = 65536 ^ j * (65536 * (t / 65536)) + 65536 ^ j * (t % 65536) := by rw [← Nat.mul_add, h2]
  have h4 : 65536 ^ j * t = 65536 ^ j * c + 65536 ^ j * (L.getD j 0).toNat + 65536 ^ j * (p * q) := by rw [ht, Nat.mul_add, Nat.mul_add]
  have h5 : t / 65536 * 65536 ^ (j + 1) = 65536 ^ j * (65536 * (t / 65536)) := by rw [Nat.pow_succ, Nat.mul_comm, Nat.mul_assoc]
  rw [h5, Nat.mul_comm c, Nat.mul_comm (p * q)]
  omega
end Go.Nt

/-
  Logs, entry by entry.
-/
namespace Go.Proofs.Ytnolcojnodoecaa
open Go.KRun

theorem okL1 {a b : Bool} (h : a = b) : okLog [(a, b)] := fun p hp => by rw [List.mem_singleton.1 hp]; exact h
theorem okCons {a b : Bool} {l : Log} (h : a = b) (hl : okLog l) : okLog ((a, b) :: l) := fun p hp => by
  rcases List.mem_cons.1 hp with rfl | hp
  · exact h
  · exact hl p hp
theorem okCs {a b : Bool} {l : Log} : okLog ((a, b) :: l) ↔ a = b ∧ okLog l := ⟨fun h => ⟨h _ (List.mem_cons_self), fun x hx => h x (List.mem_cons_of_mem _ hx)⟩, fun h => okCons h.1 h.2⟩
theorem okNl : okLog [] := fun x hx => by cases hx
end Go.Proofs.Ytnolcojnodoecaa

/-
  The document's product (tillerref02.Mul): its pieces.
-/
namespace Go.Proofs.Ytnolcojnodoecaa
open Go.KRun Go.Nt
set_option maxRecDepth 100000
set_option linter.unusedVariables false

def muB (F : Func) : Code := cFst (cSnd (cSnd (cBody F)))
def muO (F : Func) : Code := cIn (cIn (cSnd (muB F)))
def muI (F : Func) : Code := cIn (cFst (cSnd (muO F)))
def muL (F : Func) : Code := cIn (cIn (cSnd (cFst (cSnd (muI F)))))
def muPr (F : Func) : List Code := [cFst (cBody F), cFst (cSnd (cBody F))]
def muE (F : Func) : Code := cSnd (cSnd (cSnd (cBody F)))
theorem umul_body : Try.f34.body = some (seqs (muPr Try.f34) (.seq (.seq (cFst (muB Try.f34)) (.block 0 (.loop (muO Try.f34)))) (muE Try.f34))) := by kernel_rfl
theorem umul_out : muO Try.f34 = .seq (cFst (muO Try.f34)) (.seq (.block 1 (muI Try.f34)) (cSnd (cSnd (muO Try.f34)))) := by kernel_rfl
theorem umul_row : muI Try.f34 = .seq (cFst (muI Try.f34)) (.seq (.seq (cFst (cFst (cSnd (muI Try.f34)))) (.block 2 (.loop (muL Try.f34)))) (cSnd (cSnd (muI Try.f34)))) := by kernel_rfl
def mFr (o n c o' n' c' z : Nat) (i v7 v8 : Value) : List Value := [sl 0 o n c, sl 1 o' n' c', undef, undef, nilS, sl 2 0 z z, i, v7, v8]
def hM3 (lo lb la : List Value) : Hp := ⟨3, [(lo, tU), (lb, tR), (la, tR)]⟩
def zM (n n' : Nat) : Int := IntKind.i64.wrap ((n : Int) + n')
def inM (j : Int) (n : Nat) : Bool × Bool := (decide (0 ≤ j ∧ j < (n : Int)), true)
def ceM (l : List Value) (o : Nat) (j x : Int) : Bool × Bool := (cellIs (l[o + j.toNat * 1]?) (.int .u32 x), true)
def stM (l : List Value) (j : Int) : Bool × Bool := (decide (0 + j.toNat * 1 < l.length), true)
def d65 : Bool × Bool := (decide ((65536 : Int) = 0), false)
def tM (c7 d p q : Int) : Int := IntKind.u64.wrap (IntKind.u64.wrap (c7 + IntKind.u64.wrap d) + IntKind.u64.wrap (IntKind.u64.wrap p * IntKind.u64.wrap q))
def ijM (i k : Int) : Int := IntKind.i64.wrap (i + k)
theorem mu_pre (o n c o' n' c' : Nat) (la lb : List Value) : GoesT (evL (tabH Try.prog extY conN hcV) 200 (muPr Try.f34) ([sl 0 o n c, sl 1 o' n' c'] ++ List.replicate 66 undef, h2 la lb, [at_]) ⟨[], [], []⟩) 6 62 none [sl 0 o n c, sl 1 o' n' c', undef, undef, nilS, sl 2 0 (zM n n').toNat (zM n n').toNat] (hM3 (List.replicate (zM n n').toNat (.int .u32 0)) lb la) [(okMakeB 4 (zM n n') (zM n n'), true)] := ⟨by kernel_rfl, by kernel_rfl, by kernel_rfl⟩
theorem mu_r2 (v0 v1 v5 : Value) (h : Hp) (g : Nat → Value) : GoesT (evC (tabH Try.prog extY conN hcV) 200 false (cFst (muB Try.f34)) ([v0, v1, undef, undef, nilS, v5] ++ tl 62 g, h, []) ⟨[], [], []⟩) 9 59 none [v0, v1, undef, undef, nilS, v5, .int .i64 0, g 1, g 2] h [] := ⟨by kernel_rfl, by kernel_rfl, by kernel_rfl⟩
theorem mu_h1 (o n c o' n' c' z : Nat) (i c7 k d p q : Int) (v7 v8 : Value) (lo lb la : List Value) (g : Nat → Value) : GoesT (evC (tabH Try.prog extY conN hcV) 200 false (cFst (muO Try.f34)) (mFr o n c o' n' c' z (.int .i64 i) v7 v8 ++ tl 59 g, hM3 lo lb la, [cmp true]) ⟨[], [], []⟩) 9 59 none (mFr o n c o' n' c' z (.int .i64 i) v7 v8) (hM3 lo lb la) [(decide (i < (n : Int)), true)] := ⟨by kernel_rfl, by kernel_rfl, by kernel_rfl⟩
theorem mu_h0 (o n c o' n' c' z : Nat) (i c7 k d p q : Int) (v7 v8 : Value) (lo lb la : List Value) (g : Nat → Value) : GoesT (evC (tabH Try.prog extY conN hcV) 200 false (cFst (muO Try.f34)) (mFr o n c o' n' c' z (.int .i64 i) v7 v8 ++ tl 59 g, hM3 lo lb la, [cmp false]) ⟨[], [], []⟩) 9 59 (some (some 0)) (mFr o n c o' n' c' z (.int .i64 i) v7 v8) (hM3 lo lb la) [(decide (i < (n : Int)), false)] := ⟨by kernel_rfl, by kernel_rfl, by kernel_rfl⟩
theorem mu_r5 (o n c o' n' c' z : Nat) (i c7 k d p q : Int) (v7 v8 : Value) (lo lb la : List Value) (g : Nat → Value) : GoesT (evC (tabH Try.prog extY conN hcV) 200 false (cFst (muI Try.f34)) (mFr o n c o' n' c' z (.int .i64 i) v7 v8 ++ tl 59 g, hM3 lo lb la, []) ⟨[], [], []⟩) 9 59 none (mFr o n c o' n' c' z (.int .i64 i) (.int .u64 0) v8) (hM3 lo lb la) [] := ⟨by kernel_rfl, by kernel_rfl, by kernel_rfl⟩
theorem mu_r6 (o n c o' n' c' z : Nat) (i c7 k d p q : Int) (v7 v8 : Value) (lo lb la : List Value) (g : Nat → Value) : GoesT (evC (tabH Try.prog extY conN hcV) 200 false (cFst (cFst (cSnd (muI Try.f34)))) (mFr o n c o' n' c' z (.int .i64 i) v7 v8 ++ tl 59 g, hM3 lo lb la, []) ⟨[], [], []⟩) 9 59 none (mFr o n c o' n' c' z (.int .i64 i) v7 (.int .i64 0)) (hM3 lo lb la) [] := ⟨by kernel_rfl, by kernel_rfl, by kernel_rfl⟩
theorem mu_in (o n c o' n' c' z : Nat) (i c7 k d p q : Int) (v7 v8 : Value) (lo lb la : List Value) (g : Nat → Value) : GoesT (evC (tabH Try.prog extY conN hcV) 200 false (muL Try.f34) (mFr o n c o' n' c' z (.int .i64 i) (.int .u64 c7) (.int .i64 k) ++ tl 59 g, hM3 lo lb la, [cmp true, at_, val (.int .u32 d), at_, val (.int .u32 p), at_, val (.int .u32 q), cmp true, at_, at_]) ⟨[], [], []⟩) 9 59 none (mFr o n c o' n' c' z (.int .i64 i) (.int .u64 (IntKind.u64.wrap ((tM c7 d p q).tdiv 65536))) (.int .i64 (IntKind.i64.wrap (k + 1)))) (hM3 (lo.set (0 + (ijM i k).toNat * 1) (.int .u32 (IntKind.u32.wrap ((tM c7 d p q).tmod 65536)))) lb la) [stM lo (ijM i k), inM (ijM i k) z, d65, ceM lb o' k q, inM k n', ceM la o i p, inM i n, ceM lo 0 (ijM i k) d, inM (ijM i k) z, (decide (k < (n' : Int)), true)] := ⟨by kernel_rfl, by kernel_rfl, by kernel_rfl⟩
theorem mu_out (o n c o' n' c' z : Nat) (i c7 k d p q : Int) (v7 v8 : Value) (lo lb la : List Value) (g : Nat → Value) : GoesT (evC (tabH Try.prog extY conN hcV) 200 false (muL Try.f34) (mFr o n c o' n' c' z (.int .i64 i) (.int .u64 c7) (.int .i64 k) ++ tl 59 g, hM3 lo lb la, [cmp false]) ⟨[], [], []⟩) 9 59 (some (some 2)) (mFr o n c o' n' c' z (.int .i64 i) (.int .u64 c7) (.int .i64 k)) (hM3 lo lb la) [(decide (k < (n' : Int)), false)] := ⟨by kernel_rfl, by kernel_rfl, by kernel_rfl⟩
theorem mu_r12 (o n c o' n' c' z : Nat) (i c7 k d p q : Int) (v7 v8 : Value) (lo lb la : List Value) (g : Nat → Value) : GoesT (evC (tabH Try.prog extY conN hcV) 200 false (cSnd (cSnd (muI Try.f34))) (mFr o n c o' n' c' z (.int .i64 i) (.int .u64 c7) v8 ++ tl 59 g, hM3 lo lb la, [at_, at_]) ⟨[], [], []⟩) 9 59 none (mFr o n c o' n' c' z (.int .i64 i) (.int .u64 c7) v8) (hM3 (lo.set (0 + (ijM i n').toNat * 1) (.int .u32 (IntKind.u32.wrap c7))) lb la) [stM lo (ijM i n'), inM (ijM i n') z] := ⟨by kernel_rfl, by kernel_rfl, by kernel_rfl⟩
theorem mu_r4 (o n c o' n' c' z : Nat) (i c7 k d p q : Int) (v7 v8 : Value) (lo lb la : List Value) (g : Nat → Value) : GoesT (evC (tabH Try.prog extY conN hcV) 200 false (cSnd (cSnd (muO Try.f34))) (mFr o n c o' n' c' z (.int .i64 i) v7 v8 ++ tl 59 g, hM3 lo lb la, []) ⟨[], [], []⟩) 9 59 none (mFr o n c o' n' c' z (.int .i64 (IntKind.i64.wrap (i + 1))) v7 v8) (hM3 lo lb la) [] := ⟨by kernel_rfl, by kernel_rfl, by kernel_rfl⟩
theorem mu_end (o n c o' n' c' z : Nat) (i c7 k d p q : Int) (v7 v8 : Value) (lo lb la : List Value) (g : Nat → Value) : GoesT (evC (tabH Try.prog extY conN hcV) 200 false (muE Try.f34) (mFr o n c o' n' c' z (.int .i64 i) v7 v8 ++ tl 59 g, hM3 lo lb la, []) ⟨[], [], []⟩) 5 63 (some none) [sl 0 o n c, sl 1 o' n' c', undef, undef, sl 2 0 (trimN (cutI lo 0 z)) (trimN (cutI lo 0 z))] (hM3 lo lb la) [(rowC tU lo 0 z z, true)] := ⟨by kernel_rfl, by kernel_rfl, by kernel_rfl⟩
end Go.Proofs.Ytnolcojnodoecaa
