/-
  PLAIN ARITHMETIC: how many bits a number has; of digits to the base 65536.
-/
import Derived.Test.YtfmfcbnhmkkibaaG10
import Derived.Test.YtfmfcbnhmkkibaaG12
namespace Go.Nt

/-- how many bits -/
def bl (V : Nat) : Nat := if _h : V = 0 then 0 else bl (V / 2) + 1
  termination_by V
  decreasing_by omega
theorem bl_zero : bl 0 = 0 := by rw [bl]; simp
theorem bl_pos {V : Nat} (h : V ≠ 0) : bl V = bl (V / 2) + 1 := by rw [bl]; rw [dif_neg h]
theorem bl_lt (V : Nat) : V < 2 ^ bl V := by
  induction V using Nat.strongRecOn with
  | ind V ih =>
    by_cases h : V = 0
    · subst h; rw [bl_zero]; decide
    · rw [bl_pos h, Nat.pow_succ]
      have := ih (V / 2) (by omega)
      omega
theorem bl_le {V : Nat} (h : V ≠ 0) : 2 ^ (bl V - 1) ≤ V := by
  induction V using Nat.strongRecOn with
  | ind V ih =>
    rw [bl_pos h, Nat.add_sub_cancel]
    by_cases h2 : V / 2 = 0
    · rw [h2, bl_zero]; omega
    · have i := ih (V / 2) (by omega) h2
      have e : bl (V / 2) = (bl (V / 2) - 1) + 1 := by
        have := bl_pos h2
        omega
      rw [e, Nat.pow_succ]
      omega
theorem bl_uniq {V k : Nat} (h0 : 2 ^ k ≤ V) (h1 : V < 2 ^ (k + 1)) : bl V = k + 1 := by
  have hp : 0 < 2 ^ k := Nat.pow_pos (by omega)
  have hV : V ≠ 0 := by omega
  have a1 := bl_lt V
  have a2 := bl_le hV
  have a3 : bl V ≠ 0 := by have := bl_pos hV; omega
  rcases Nat.lt_or_ge (bl V) (k + 1) with h | h
  · have := Nat.pow_le_pow_right (show 0 < 2 by omega) (show bl V ≤ k by omega)
    omega
  · rcases Nat.lt_or_ge (k + 1) (bl V) with h' | h'
    · have := Nat.pow_le_pow_right (show 0 < 2 by omega) (show k + 1 ≤ bl V - 1 by omega)
      omega
    · omega
theorem bl_le_of {V k : Nat} (h : V < 2 ^ k) : bl V ≤ k := by
  by_cases hV : V = 0
  · subst hV; rw [bl_zero]; omega
  · have a := bl_le hV
    rcases Nat.lt_or_ge k (bl V) with h' | h'
    · have := Nat.pow_le_pow_right (show 0 < 2 by omega) (show k ≤ bl V - 1 by omega)
      omega
    · exact h'
theorem pow16 (k : Nat) : 65536 ^ k = 2 ^ (16 * k) := by rw [show (65536 : Nat) = 2 ^ 16 from rfl, ← Nat.pow_mul]
/-- the bits of a number by its highest part -/
theorem bl_top {t lo k : Nat} (ht : t ≠ 0) (hlo : lo < 65536 ^ k) : bl (lo + 65536 ^ k * t) = 16 * k + bl t := by
  have a1 := bl_lt t
  have a2 := bl_le ht
  have a3 : bl t ≠ 0 := by have := bl_pos ht; omega
  rw [pow16] at *
  have e : 16 * k + bl t = (16 * k + (bl t - 1)) + 1 := by omega
  rw [e]
  refine bl_uniq ?_ ?_
  · rw [Nat.pow_add]
    have := Nat.mul_le_mul_left (2 ^ (16 * k)) a2
    omega
  · rw [Nat.add_assoc, show bl t - 1 + 1 = bl t by omega, Nat.pow_add]
    have := Nat.mul_le_mul_left (2 ^ (16 * k)) (show t + 1 ≤ 2 ^ bl t by omega)
    rw [Nat.mul_add, Nat.mul_one] at this
    omega
end Go.Nt

/-
  The document's rows of parts of 16 bits (tillerref02): Len, as a call with a number's row or nothing.
-/
namespace Go.Proofs.Ytfmfcbnhmkkibaa
open Go.KRun Go.Nt
set_option maxRecDepth 100000

def canB (L : List Int) : Bool := dgB L && Nat.beq (trimN L) L.length
theorem canB_of {L : List Int} (h : canB L = true) : Canon 65536 L := by
  unfold canB at h
  simp only [Bool.and_eq_true] at h
  exact ⟨dgB_of h.1, Nat.eq_of_beq_eq_true h.2⟩
theorem canB_mk {L : List Int} (h : Canon 65536 L) : canB L = true := by
  unfold canB
  rw [dgB_mk h.1, h.2, Nat.beq_refl]
  rfl
end Go.Proofs.Ytfmfcbnhmkkibaa

/-
  The document's rows of parts of 16 bits (tillerref02): Shl, as a call with a row or nothing.
-/
namespace Go.Proofs.Ytfmfcbnhmkkibaa
open Go.KRun Go.Nt
set_option maxRecDepth 100000

def sA (F : Func) : Code := cFst (cSnd (cBody F))
def sR (F : Func) : Code := cSnd (cSnd (cBody F))
def sR3 (F : Func) : Code := cFst (sR F)
def sR4 (F : Func) : Code := cFst (cSnd (sR F))
def sR5 (F : Func) : Code := cFst (cFst (cSnd (cSnd (sR F))))
def sL1 (F : Func) : Code := cIn (cIn (cSnd (cFst (cSnd (cSnd (sR F))))))
def sR9 (F : Func) : Code := cFst (cSnd (cSnd (cSnd (sR F))))
def sT (F : Func) : Code := cSnd (cSnd (cSnd (cSnd (sR F))))
def sR10 (F : Func) : Code := cFst (cFst (sT F))
def sL2 (F : Func) : Code := cIn (cIn (cSnd (cFst (sT F))))
def sEn (F : Func) : Code := cSnd (sT F)
def sPr (F : Func) : List Code := [cFst (cBody F), sA F, sR3 F, sR4 F]
theorem ushl_body : Try.f44.body = some (seqs (sPr Try.f44) (.seq (.seq (sR5 Try.f44) (.block 0 (.loop (sL1 Try.f44)))) (.seq (sR9 Try.f44) (.seq (.seq (sR10 Try.f44) (.block 2 (.loop (sL2 Try.f44)))) (sEn Try.f44))))) := by kernel_rfl
theorem ushl_body1 : Try.f44.body = some (cBody Try.f44) := by kernel_rfl
def k16 (k : Int) : Int := IntKind.i64.wrap (k.tdiv 16)
def zz (z : Nat) : List Value := List.replicate z (.int .u32 0)
theorem ushl_zero (p : Option Addr) (n c : Nat) (k : Value) (h : Hp) : GoesT (evC (tabH Try.prog extY conN hcV) 100 false (cBody Try.f44) ([.slice p n c, k] ++ List.replicate 48 undef, h, [cmp true]) ⟨[], [], []⟩) 5 45 (some none) [.slice p n c, k, undef, undef, nilS] h [((n : Int) == 0, true)] := ⟨by kernel_rfl, by kernel_rfl, by kernel_rfl⟩
theorem ushl_pre (o n c : Nat) (k : Int) (x : List Value × TypeId) : GoesT (evL (tabH Try.prog extY conN hcV) 100 (sPr Try.f44) ([sl 0 o n c, .int .i64 k] ++ List.replicate 48 undef, ⟨1, [x]⟩, [cmp false, at_]) ⟨[], [], []⟩) 7 43 none [sl 0 o n c, .int .i64 k, undef, undef, nilS, sl 1 0 (k16 k).toNat (k16 k).toNat, .int .u32 1] ⟨2, [(zz (k16 k).toNat, tU), x]⟩ [(okMakeB 4 (k16 k) (k16 k), true), ((n : Int) == 0, false)] := ⟨by kernel_rfl, by kernel_rfl, by kernel_rfl⟩
theorem ushl_r5 (a v : Value) (k : Int) (h : Hp) (g : Nat → Value) : GoesT (evC (tabH Try.prog extY conN hcV) 100 false (sR5 Try.f44) ([a, .int .i64 k, undef, undef, nilS, v, .int .u32 1] ++ tl 43 g, h, []) ⟨[], [], []⟩) 8 42 none [a, .int .i64 k, undef, undef, nilS, v, .int .u32 1, .int .i64 0] h [] := ⟨by kernel_rfl, by kernel_rfl, by kernel_rfl⟩
theorem ushl_l1 (a v : Value) (k b i : Int) (h : Hp) (g : Nat → Value) : GoesT (evC (tabH Try.prog extY conN hcV) 100 false (sL1 Try.f44) ([a, .int .i64 k, undef, undef, nilS, v, .int .u32 b, .int .i64 i] ++ tl 42 g, h, [cmp true, cmp true]) ⟨[], [], []⟩) 8 42 none [a, .int .i64 k, undef, undef, nilS, v, .int .u32 (IntKind.u32.wrap (2 * b)), .int .i64 (IntKind.i64.wrap (i + 1))] h [(decide (i < k.tmod 16), true), (decide ((16 : Int) = 0), false)] := ⟨by kernel_rfl, by kernel_rfl, by kernel_rfl⟩
theorem ushl_o1 (a v : Value) (k b i : Int) (h : Hp) (g : Nat → Value) : GoesT (evC (tabH Try.prog extY conN hcV) 100 false (sL1 Try.f44) ([a, .int .i64 k, undef, undef, nilS, v, .int .u32 b, .int .i64 i] ++ tl 42 g, h, [cmp true, cmp false]) ⟨[], [], []⟩) 8 42 (some (some 0)) [a, .int .i64 k, undef, undef, nilS, v, .int .u32 b, .int .i64 i] h [(decide (i < k.tmod 16), false), (decide ((16 : Int) = 0), false)] := ⟨by kernel_rfl, by kernel_rfl, by kernel_rfl⟩
theorem ushl_r9 (a v : Value) (k b i : Int) (h : Hp) (g : Nat → Value) : GoesT (evC (tabH Try.prog extY conN hcV) 100 false (sR9 Try.f44) ([a, .int .i64 k, undef, undef, nilS, v, .int .u32 b, .int .i64 i] ++ tl 42 g, h, []) ⟨[], [], []⟩) 9 41 none [a, .int .i64 k, undef, undef, nilS, v, .int .u32 b, .int .i64 i, .int .u32 0] h [] := ⟨by kernel_rfl, by kernel_rfl, by kernel_rfl⟩
theorem ushl_r10 (a v : Value) (k b i : Int) (h : Hp) (g : Nat → Value) : GoesT (evC (tabH Try.prog extY conN hcV) 100 false (sR10 Try.f44) ([a, .int .i64 k, undef, undef, nilS, v, .int .u32 b, .int .i64 i, .int .u32 0] ++ tl 41 g, h, []) ⟨[], [], []⟩) 10 40 none [a, .int .i64 k, undef, undef, nilS, v, .int .u32 b, .int .i64 i, .int .u32 0, .int .i64 0] h [] := ⟨by kernel_rfl, by kernel_rfl, by kernel_rfl⟩
/-- what is carried and one part more -/
def cy (e x b : Int) : Int := IntKind.u32.wrap (e + IntKind.u32.wrap (x * b))
def lAx (l : List Value) (o n : Nat) (i x : Int) : Log := [(decide ((65536 : Int) = 0), false), (cellIs (l[o + i.toNat * 1]?) (.int .u32 x), true), (decide (0 ≤ i ∧ i < n), true), (decide (i < n), true)]
theorem ushl_fst (o n c z z' : Nat) (b e i x : Int) (l lo : List Value) (j1 j7 : Value) (g : Nat → Value) : GoesT (evC (tabH Try.prog extY conN hcV) 100 false (sL2 Try.f44) ([sl 0 o n c, j1, undef, undef, nilS, sl 1 0 z z', .int .u32 b, j7, .int .u32 e, .int .i64 i] ++ tl 40 g, ⟨2, [(lo, tU), (l, tR)]⟩, [cmp true, at_, val (.int .u32 x), cmp true, num 0]) ⟨[], [], []⟩) 10 40 none [sl 0 o n c, j1, undef, undef, nilS, sl 3 0 (z + 1) grown, .int .u32 b, j7, .int .u32 (IntKind.u32.wrap ((cy e x b).tdiv 65536)), .int .i64 (IntKind.i64.wrap (i + 1))] ⟨4, [(lo ++ [.int .u32 ((cy e x b).tmod 65536)], tU), ([.int .u32 ((cy e x b).tmod 65536)], tU), (lo, tU), (l, tR)]⟩ ((appChz (lo, tU) ([.int .u32 ((cy e x b).tmod 65536)], tU) z z' 0 1, true) :: lAx l o n i x) := ⟨by kernel_rfl, by kernel_rfl, by kernel_rfl⟩
theorem ushl_nxt (o n c z : Nat) (b e i x : Int) (l lo : List Value) (j1 j7 : Value) (g : Nat → Value) : GoesT (evC (tabH Try.prog extY conN hcV) 100 false (sL2 Try.f44) ([sl 0 o n c, j1, undef, undef, nilS, sl 1 0 z grown, .int .u32 b, j7, .int .u32 e, .int .i64 i] ++ tl 40 g, ⟨2, [(lo, tU), (l, tR)]⟩, [cmp true, at_, val (.int .u32 x), cmp true, at_]) ⟨[], [], []⟩) 10 40 none [sl 0 o n c, j1, undef, undef, nilS, sl 3 0 (z + 1) grown, .int .u32 b, j7, .int .u32 (IntKind.u32.wrap ((cy e x b).tdiv 65536)), .int .i64 (IntKind.i64.wrap (i + 1))] ⟨4, [(lo ++ [.int .u32 ((cy e x b).tmod 65536)], tU), ([.int .u32 ((cy e x b).tmod 65536)], tU), ([], 2 * dead), (l, tR)]⟩ ((appChk tU (lo, tU) ([.int .u32 ((cy e x b).tmod 65536)], tU) z 0 1, true) :: lAx l o n i x) := ⟨by kernel_rfl, by kernel_rfl, by kernel_rfl⟩
theorem ushl_o2 (p : Option Addr) (n c : Nat) (v : Value) (b e i : Int) (h : Hp) (j1 j7 : Value) (g : Nat → Value) : GoesT (evC (tabH Try.prog extY conN hcV) 100 false (sL2 Try.f44) ([.slice p n c, j1, undef, undef, nilS, v, .int .u32 b, j7, .int .u32 e, .int .i64 i] ++ tl 40 g, h, [cmp false]) ⟨[], [], []⟩) 10 40 (some (some 2)) [.slice p n c, j1, undef, undef, nilS, v, .int .u32 b, j7, .int .u32 e, .int .i64 i] h [(decide (i < n), false)] := ⟨by kernel_rfl, by kernel_rfl, by kernel_rfl⟩
theorem ushl_end (a : Value) (z : Nat) (b e i : Int) (x : List Value × TypeId) (lo : List Value) (j1 j7 : Value) (g : Nat → Value) : GoesT (evC (tabH Try.prog extY conN hcV) 100 false (sEn Try.f44) ([a, j1, undef, undef, nilS, sl 1 0 z grown, .int .u32 b, j7, .int .u32 e, .int .i64 i] ++ tl 40 g, ⟨2, [(lo, tU), x]⟩, [at_]) ⟨[], [], []⟩) 5 45 (some none) [a, j1, undef, undef, sl 3 0 (trimN (cutI (lo ++ [.int .u32 e]) 0 (z + 1))) (trimN (cutI (lo ++ [.int .u32 e]) 0 (z + 1)))] ⟨4, [(lo ++ [.int .u32 e], tU), ([.int .u32 e], tU), ([], 2 * dead), x]⟩ [(rowC tU (lo ++ [.int .u32 e]) 0 (z + 1) grown, true), (appChk tU (lo, tU) ([.int .u32 e], tU) z 0 1, true)] := ⟨by kernel_rfl, by kernel_rfl, by kernel_rfl⟩
end Go.Proofs.Ytfmfcbnhmkkibaa
