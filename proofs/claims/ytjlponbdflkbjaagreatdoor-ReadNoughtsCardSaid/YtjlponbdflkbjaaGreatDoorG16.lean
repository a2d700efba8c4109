/-
  NumTx, ConV4, ConV5, ConV7, ConVK, Row, RowS, SlA, SlN, NumSl, NumTm, ConNM, ConNN, ConNO, ConNE, NumR, ConNF
-/
import Derived.Test.YtjlponbdflkbjaaGreatDoorG07
import Derived.Test.YtjlponbdflkbjaaGreatDoorG13
import Derived.Test.YtjlponbdflkbjaaGreatDoorG06
import Derived.WalkKit
import Derived.ProofKit
import Derived.OpenShut
import Derived.Laws.IdiomArrays
import Derived.Lib.SmallJoins
import Derived.ChangeSlices
import Derived.LaidEql
import Derived.Stop.Asserts
import Derived.RowKitTokens
import Derived.Test.YtjlponbdflkbjaaGreatDoorG15
import Derived.Test.YtjlponbdflkbjaaGreatDoorG12
namespace Go.Nt
/-- what digits stand for, the highest first -/
def rdV10 (f : Nat → Int) : Nat → Nat
  | 0 => 0
  | k + 1 => 10 * rdV10 f k + (f k).toNat
theorem rdV10_lt {f : Nat → Int} : ∀ k, (∀ j, j < k → 0 ≤ f j ∧ f j < 10) → rdV10 f k < 10 ^ k
  | 0, _ => by simp [rdV10]
  | k + 1, h => by
    have ih := rdV10_lt k (fun j hj => h j (by omega))
    have := h k (by omega)
    simp only [rdV10, Nat.pow_succ]
    omega
theorem rdV10_add {f : Nat → Int} (i : Nat) : ∀ k, rdV10 f (i + k) = rdV10 f i * 10 ^ k + rdV10 (fun j => f (i + j)) k
  | 0 => by simp [rdV10]
  | k + 1 => by
    rw [show i + (k + 1) = (i + k) + 1 by omega]
    simp only [rdV10]
    rw [rdV10_add i k, Nat.pow_succ]
    generalize rdV10 (fun j => f (i + j)) k = A
    generalize rdV10 f i = B
    generalize 10 ^ k = C
    rw [Nat.mul_add, Nat.add_assoc, ← Nat.mul_assoc, Nat.mul_comm 10 B, Nat.mul_assoc B 10 C, Nat.mul_comm 10 C]
end Go.Nt
namespace Go.Proofs.YtjlponbdflkbjaaGreatDoor
open Go.KRun Go.Nt
set_option maxRecDepth 100000
/-- a row or nothing, in block i of a small memory -/
structure Nu (i : Nat) (x : List Value × TypeId) (p : Option Addr) (n c : Nat) (A : List Int) : Prop where
  row : ∀ h : Hp, h.blk? i = some x → rowP h p n c = true ∧ rowOf h p n = A
  pos : p = none ∨ ∃ o, p = some ⟨i, o, none⟩
  st : ∀ v ∈ x.1, still v = true
  lt0 : ∀ v ∈ x.1, still v = true
  ros : ro x.2 = true ∧ ab x.2 = false
theorem Nu.rn {i : Nat} {x : List Value × TypeId} {p : Option Addr} {n c : Nat} {A : List Int} (h : Nu i x p n c A) {f : Nat → Nat} (hf : f i = i) : KRun.rn f (.slice p n c) = .slice p n c := by
  rcases h.pos with rfl | ⟨o, rfl⟩
  · rfl
  · show Value.slice (some ⟨f i, o, none⟩) n c = _
    rw [hf]
theorem Nu.lt {i : Nat} {x : List Value × TypeId} {p : Option Addr} {n c : Nat} {A : List Int} (h : Nu i x p n c A) {k : Nat} (hk : i < k) : KRun.lt k (.slice p n c) = true := by
  rcases h.pos with rfl | ⟨o, rfl⟩
  · rfl
  · exact blt_iff.2 hk
theorem rowOf_len {h : Hp} {p : Option Addr} {n c : Nat} (hr : rowP h p n c = true) : (rowOf h p n).length = n := by
  rcases rowP_cases hr with ⟨rfl, rfl, rfl, e0⟩ | ⟨b, o, x, rfl, hx, q1, q2, e0⟩
  · rw [e0]; rfl
  · rw [e0]; exact (rowC_of q1).2.1
/-! ### Add -/
section
variable {x y : List Value × TypeId} {p q : Option Addr} {n c n' c' : Nat} {A B : List Int}
end
def vO (h : Hp) (p : Option Addr) (n : Nat) : Nat := vb 65536 (rowOf h p n)
def cmpZ (a b : Nat) : Int := if a < b then -1 else if a = b then 0 else 1
section
variable {x y : List Value × TypeId} {p q : Option Addr} {n c n' c' : Nat} {A B : List Int}
end
end Go.Proofs.YtjlponbdflkbjaaGreatDoor
namespace Go.Proofs.YtjlponbdflkbjaaGreatDoor.Na
open Go.KRun Go.Nt
set_option maxRecDepth 100000
set_option linter.unusedVariables false
/-! ### numbers -/
section
variable {l : List Value} {o c : Nat} {A : List Int}
def d32 (V : Nat) : List Int := db 4294967296 V
end
end Go.Proofs.YtjlponbdflkbjaaGreatDoor.Na
namespace Go.KRun
open Go.ChangeShapes Go.WideShapes Go.ChangeAt Go.RowKit Go.Joins
section
variable {H : Type} {enc : TypeId × Value → H} {P : Program} {w : World} {base : Nat} {spare : Nat → Bool} {held : Bool}
end
theorem tidy_frozen {w w' : World} (h : Tidy w w') (a : Addr) : w'.frozen? a = w.frozen? a := by
  unfold World.frozen?
  by_cases h1 : a.block < w.heap.size
  · rw [h.1.block _ h1]
  · rw [Array.getElem?_eq_none (by omega : w.heap.size ≤ a.block)]
    by_cases h2 : a.block < w'.heap.size
    · have h3 := h.2 a.block (by omega) h2
      unfold iced at h3
      split
      · rename_i c e lo hi hc
        have := h3 _ _ _ hc
        cases this
        simp
      · rfl
    · rw [Array.getElem?_eq_none (by omega : w'.heap.size ≤ a.block)]
theorem u64_bounds {n : Int} (h : (Lit.int .u64 n).wf = true) : 0 ≤ n ∧ n < 18446744073709551616 := by
  simp [Lit.wf, IntKind.min, IntKind.max, IntKind.signed, IntKind.bits] at h
  omega
section
variable {H : Type} {enc : TypeId × Value → H} {P : Program} {w : World}
/-- a row that lies in the memory: from 'off' on 'cap' words -/
structure Lain (w : World) (b off : Nat) (cs : Array Value) (zs : List Int) : Prop where
  heap : ∃ ty z, w.heap[b]? = some (.cells cs ty z)
  room : off + zs.length ≤ cs.size
  cell : ∀ i, i < zs.length → cs[off + i]? = some (.int .u32 (zs.getD i 0))
  wf : ∀ n ∈ zs, (Lit.int .u32 n).wf = true
end
end Go.KRun
namespace Go.Proofs.YtjlponbdflkbjaaGreatDoor.Na
open Go.KRun Go.Nt
set_option maxRecDepth 100000
set_option linter.unusedVariables false
/-! ### where it begins -/
/-- an argument, and how it is told in the small memory: block i -/
def Arg (w : World) (i : Nat) (v : Value) (x : List Value × TypeId) (k : Nat × Nat) (p : Option Addr) (n c : Nat) (L : List Int) : Prop :=
  (v = .slice none 0 0 ∧ x = ([], 2 * dead) ∧ p = none ∧ n = 0 ∧ c = 0 ∧ L = []) ∨
  ∃ b off cs zs, v = .slice (some ⟨b, off, none⟩) n c ∧ Lain w b off cs zs ∧ c = zs.length ∧ n ≤ zs.length ∧ zs.length < 4611686018427387904 ∧ x = (rowL cs off zs, tR) ∧ k = (b, cs.size) ∧ p = some ⟨i, off, none⟩ ∧ L = zs.take n
theorem Arg.val {w : World} {i : Nat} {v : Value} {x : List Value × TypeId} {k : Nat × Nat} {p : Option Addr} {n c : Nat} {L : List Int} (h : Arg w i v x k p n c L) {m : Mp} (hm : m i = k) : mv m (.slice p n c) = v := by
  rcases h with ⟨rfl, _, rfl, rfl, rfl, _⟩ | ⟨b, off, cs, zs, rfl, _, rfl, _, h4, _, rfl, rfl, _⟩
  · rfl
  · have hs : smallC zs.length = true := blt_iff.2 h4
    simp only [mv, mv2, mv1, mvA, hm, cap_small hs]
theorem Arg.lt {w : World} {i : Nat} {v : Value} {x : List Value × TypeId} {k : Nat × Nat} {p : Option Addr} {n c : Nat} {L : List Int} (h : Arg w i v x k p n c L) (hi : i < 3) : KRun.lt 3 (.slice p n c) = true := by
  rcases h with ⟨_, _, rfl, _⟩ | ⟨b, off, cs, zs, _, _, _, _, _, _, _, rfl, _⟩
  · rfl
  · exact blt_iff.2 hi
theorem log_tl {x : Bool × Bool} {l : Log} (h : okLog (x :: l)) : x.1 = x.2 ∧ okLog l := ⟨h _ List.mem_cons_self, fun y hy => h y (List.mem_cons_of_mem _ hy)⟩
end Go.Proofs.YtjlponbdflkbjaaGreatDoor.Na
namespace Go.Nt
theorem vN_vb : ∀ {L : List Int}, wds L → vN L = (vb 4294967296 L : Nat)
  | [], _ => rfl
  | x :: r, h => by
    obtain ⟨h1, h2⟩ := wds_tail h
    have := vN_vb h2
    show x + 4294967296 * vN r = ((x.toNat + 4294967296 * vb 4294967296 r : Nat) : Int)
    rw [this]
    omega
theorem vN_dg : ∀ (m : Nat) (V : Int), 0 ≤ V → V < 4294967296 ^ m → vN (dg m V) = V
  | 0, V, h0, h1 => by
    have : V = 0 := by rw [Int.pow_zero] at h1; omega
    subst this
    rfl
  | m + 1, V, h0, h1 => by
    rw [pw] at h1
    have h2 := vN_dg m (V / 4294967296) (by omega) (by omega)
    simp only [dg, vN]
    rw [h2]
    omega
theorem take_dg {m : Nat} {V : Nat} (h : (V : Int) < 4294967296 ^ m) : (dg m V).take (trimN (dg m V)) = db 4294967296 V := by
  have hw := dg_wds m V
  rw [take_trim (b := 4294967296) (by omega) _ hw]
  have h1 := vN_dg m V (by omega) h
  rw [vN_vb hw] at h1
  rw [Int.ofNat.inj h1]
theorem topCmp_in (L M : List Int) : ∀ k, topCmp L M k = -1 ∨ topCmp L M k = 0 ∨ topCmp L M k = 1
  | 0 => .inr (.inl rfl)
  | k + 1 => by
    unfold topCmp
    split
    · exact topCmp_in L M k
    · split
      · exact .inl rfl
      · exact .inr (.inr rfl)
theorem cmpL_in (L M : List Int) : cmpL L M = -1 ∨ cmpL L M = 0 ∨ cmpL L M = 1 := by
  unfold cmpL
  split
  · exact topCmp_in _ _ _
  · split
    · exact .inl rfl
    · exact .inr (.inr rfl)
theorem cmpL_vb {L M : List Int} (hL : canon L) (hM : canon M) : cmpL L M = if vb 4294967296 L < vb 4294967296 M then -1 else if vb 4294967296 L = vb 4294967296 M then 0 else 1 := by
  have h := cmpL_val hL hM
  rw [vN_vb hL.1, vN_vb hM.1] at h
  have h3 := cmpL_in L M
  split
  · have := h.1.2 (by omega)
    omega
  · split
    · exact h.2.2 (by omega)
    · have h1 : ¬ cmpL L M < 0 := fun hx => by have := h.1.1 hx; omega
      have h2 : ¬ cmpL L M = 0 := fun hx => by have := h.2.1 hx; omega
      omega
theorem db_pos_len {b V : Nat} (hb : 2 ≤ b) : 0 < (db b V).length ↔ 0 < V := by
  rw [List.length_pos_iff, ne_eq, db_nil hb]
  omega
theorem dg_rest : ∀ (m : Nat) (V : Int), vN (dg m V) + 4294967296 ^ m * (V / 4294967296 ^ m) = V
  | 0, V => by simp [dg, vN]
  | m + 1, V => by
    have h := dg_rest m (V / 4294967296)
    simp only [dg, vN]
    rw [pw, ← Int.ediv_ediv_of_nonneg (show (0 : Int) ≤ 4294967296 by omega), Int.mul_assoc]
    omega
/-- a round -/
theorem tm_step {P a b x y z k d e A B : Int} (he : k + (x * y + z) = d + 4294967296 * e) (h : a + P * ((z + 4294967296 * A) + x * (y + 4294967296 * B) + k) = b) : a + P * d + 4294967296 * P * (A + x * B + e) = b := by
  rw [← h]
  have e1 : (z + 4294967296 * A) + x * (y + 4294967296 * B) + k = d + 4294967296 * (A + x * B + e) := by
    rw [Int.mul_add x y, ← Int.mul_assoc x 4294967296 B, Int.mul_comm x 4294967296, Int.mul_assoc 4294967296 x B]
    omega
  rw [e1]
  generalize A + x * B + e = Z
  rw [Int.mul_add P d, ← Int.mul_assoc P 4294967296 Z, Int.mul_comm P 4294967296]
  omega
theorem xy_bd {x y : Int} (hx : 0 ≤ x ∧ x < 4294967296) (hy : 0 ≤ y ∧ y < 4294967296) : 0 ≤ x * y ∧ x * y ≤ 18446744065119617025 := by
  constructor
  · exact Int.mul_nonneg hx.1 hy.1
  · have h1 : x * y ≤ 4294967295 * y := Int.mul_le_mul_of_nonneg_right (by omega) hy.1
    omega
theorem tm_bd {M B x Q : Int} (hM : 0 ≤ M ∧ M < Q) (hB : 0 ≤ B ∧ B < Q) (hx : 0 ≤ x ∧ x < 4294967296) : 0 ≤ M + x * B ∧ M + x * B < Q * 4294967296 := by
  have h0 := Int.mul_nonneg hx.1 hB.1
  have h1 : x * B ≤ 4294967295 * B := Int.mul_le_mul_of_nonneg_right (by omega) hB.1
  omega
theorem carry_bd {T Q : Int} (hQ : 0 < Q) (h : 0 ≤ T ∧ T < Q * 4294967296) : 0 ≤ T / Q ∧ T / Q < 4294967296 :=
  ⟨Int.ediv_nonneg h.1 (by omega), Int.ediv_lt_of_lt_mul hQ (by rw [Int.mul_comm]; exact h.2)⟩
/-- the words of a row, and of what is added to it: one more -/
theorem tm_split {M : List Int} {T : Int} (hT : 0 ≤ T ∧ T < 4294967296 ^ M.length * 4294967296) : ∃ y m, dg M.length T ++ [T / 4294967296 ^ M.length] = y :: m ∧ m.length = M.length ∧ wds [y] ∧ wds m ∧ y + 4294967296 * vN m = T := by
  have hc := carry_bd (pw_pos M.length) hT
  have hw : wds (dg M.length T ++ [T / 4294967296 ^ M.length]) := wds_app (dg_wds _ _) (fun x hx => by rw [List.mem_singleton.1 hx]; exact hc)
  have hl : (dg M.length T ++ [T / 4294967296 ^ M.length]).length = M.length + 1 := by rw [List.length_append, dg_len]; rfl
  have hv : vN (dg M.length T ++ [T / 4294967296 ^ M.length]) = T := by rw [vN_snoc, dg_len]; exact dg_rest _ _
  cases h : dg M.length T ++ [T / 4294967296 ^ M.length] with
  | nil => rw [h] at hl; simp at hl
  | cons y m =>
    rw [h] at hw hl hv
    obtain ⟨w1, w2⟩ := wds_tail hw
    refine ⟨y, m, rfl, by simpa using hl, fun x hx => by rw [List.mem_singleton.1 hx]; exact w1, w2, hv⟩
theorem pd_step {P d m A B x y m' : Int} (hT : y + 4294967296 * m' = m + x * B) (h : d + P * m = A * B) : d + P * y + 4294967296 * P * m' = (A + P * x) * B := by
  have e1 : P * y + 4294967296 * P * m' = P * (m + x * B) := by
    rw [← hT, Int.mul_add, ← Int.mul_assoc P 4294967296 m', Int.mul_comm P 4294967296]
  rw [Int.add_mul, ← h, Int.mul_assoc P x B]
  rw [Int.mul_add] at e1
  omega
theorem vN_rep : ∀ n : Nat, vN (List.replicate n 0) = 0
  | 0 => rfl
  | n + 1 => by
    rw [List.replicate_succ]
    simp only [vN]
    rw [vN_rep n]
    rfl
end Go.Nt
namespace Go.Proofs.YtjlponbdflkbjaaGreatDoor.Na
open Go.KRun Go.Nt
set_option maxRecDepth 100000
set_option linter.unusedVariables false
def tK (k x y z : Int) : Int := IntKind.u64.wrap (k + IntKind.u64.wrap (IntKind.u64.wrap (IntKind.u64.wrap x * IntKind.u64.wrap y) + IntKind.u64.wrap z))
def tC (k x y z : Int) : Int := (tK k x y z).fdiv (2 ^ min (Int.toNat 32) 64)
def tD (k x y z : Int) : Int := IntKind.u32.wrap (tK k x y z)
theorem tm_word {k x y z : Int} (hk : 0 ≤ k ∧ k < 4294967296) (hx : 0 ≤ x ∧ x < 4294967296) (hy : 0 ≤ y ∧ y < 4294967296) (hz : 0 ≤ z ∧ z < 4294967296) :
    (0 ≤ tD k x y z ∧ tD k x y z < 4294967296) ∧ (0 ≤ tC k x y z ∧ tC k x y z < 4294967296) ∧ k + (x * y + z) = tD k x y z + 4294967296 * tC k x y z := by
  have hxy := xy_bd hx hy
  have e : tK k x y z = k + (x * y + z) := by
    unfold tK
    simp only [u64w]
    rw [Int.emod_eq_of_lt hx.1 (by omega), Int.emod_eq_of_lt hy.1 (by omega), Int.emod_eq_of_lt hz.1 (by omega), Int.emod_eq_of_lt hxy.1 (by omega), Int.emod_eq_of_lt (by omega) (by omega), Int.emod_eq_of_lt (by omega) (by omega)]
  unfold tD tC
  rw [e, u32w, show ((2 : Int) ^ min (Int.toNat 32) 64) = 4294967296 from by decide, Int.fdiv_eq_ediv_of_nonneg _ (by omega)]
  generalize x * y = W at *
  omega
def tmP (F : Func) : List Code := [cFst (cBody F), cFst (cSnd (cBody F)), cFst (cSnd (cSnd (cBody F)))]
def tmB (F : Func) : Code := cFst (cSnd (cSnd (cSnd (cBody F))))
def tmL (F : Func) : Code := cIn (cIn (cSnd (tmB F)))
def tmE (F : Func) : Code := cSnd (cSnd (cSnd (cSnd (cBody F))))
def tmF (o n c o' c' : Nat) (x k : Int) (v8 v9 u1 u2 u3 u4 : Value) (j : Int) : List Value := [sl 2 o n c, sl 1 o' n c', uu x, undef, undef, undef, uu 0, .int .u64 k, v8, v9, u1, u2, u3, u4, sl 1 o' n c', i6' n, i6' j]
theorem tm_body : Tryz.f132.body = some (seqs (tmP Tryz.f132) (.seq (.seq (cFst (tmB Tryz.f132)) (.block 0 (.loop (tmL Tryz.f132)))) (tmE Tryz.f132))) := by kernel_rfl
def tmA (o n c o' c' : Nat) (x : Int) : List Value := [sl 2 o n c, sl 1 o' n c', uu x, undef, undef, undef, uu 0, .int .u64 0, undef, undef, sl 2 o n c, sl 1 o' n c', i6' n, sl 2 o n c]
theorem tm_pre (o n c o' c' : Nat) (x : Int) (S la lb : List Value) : GoesT (evL (tabOf Tryz.prog extY conN true) 100 (tmP Tryz.f132) ([sl 2 o n c, sl 1 o' n c', uu x] ++ List.replicate 41 undef, h3 la lb S, [num 0]) ⟨[], [], []⟩) 14 30 none (tmA o n c o' c' x) (h3 la lb S) [(smallC c, true), (okPart 0 n c c, true), (decide ((c : Int) = 0 ∧ (0 : Int) ≠ 0), false)] := ⟨by kernel_rfl, by kernel_rfl, by kernel_rfl⟩
theorem tm_r3 (o n c o' c' : Nat) (x : Int) (S la lb : List Value) (g : Nat → Value) : GoesT (evC (tabOf Tryz.prog extY conN true) 100 false (cFst (tmB Tryz.f132)) (tmA o n c o' c' x ++ tl 30 g, h3 la lb S, []) ⟨[], [], []⟩) 17 27 none (tmF o n c o' c' x 0 undef undef (sl 2 o n c) (sl 1 o' n c') (i6' n) (sl 2 o n c) 0) (h3 la lb S) [] := ⟨by kernel_rfl, by kernel_rfl, by kernel_rfl⟩
theorem tm_out (o n c o' c' : Nat) (x k j : Int) (v8 v9 u1 u2 u3 u4 : Value) (S la lb : List Value) (g : Nat → Value) : GoesT (evC (tabOf Tryz.prog extY conN true) 100 false (tmL Tryz.f132) (tmF o n c o' c' x k v8 v9 u1 u2 u3 u4 j ++ tl 27 g, h3 la lb S, [cmp false]) ⟨[], [], []⟩) 17 27 (some (some 0)) (tmF o n c o' c' x k v8 v9 u1 u2 u3 u4 j) (h3 la lb S) [(decide (j < n), false)] := ⟨by kernel_rfl, by kernel_rfl, by kernel_rfl⟩
theorem tm_go (o n c o' c' : Nat) (x k j y z : Int) (v8 v9 u1 u2 u3 u4 : Value) (S la lb : List Value) (g : Nat → Value) : GoesT (evC (tabOf Tryz.prog extY conN true) 100 false (tmL Tryz.f132) (tmF o n c o' c' x k v8 v9 u1 u2 u3 u4 j ++ tl 27 g, h3 la lb S, [cmp true, at_, val (uu y), at_, val (uu z), at_, at_]) ⟨[], [], []⟩) 17 27 none (tmF o n c o' c' x (tC k x y z) (i6' j) (uu y) u1 u2 u3 u4 (IntKind.i64.wrap (j + 1))) (h3 la lb (S.set (o + j.toNat * 1) (uu (tD k x y z)))) [(decide ((32 : Int) < 0), false), (decide (o + j.toNat * 1 < S.length), true), inR j n, celR S o j z, inR j n, celR lb o' j y, inR j n, (decide (j < n), true)] := ⟨by kernel_rfl, by kernel_rfl, by kernel_rfl⟩
theorem tm_end (o n c o' c' : Nat) (x k j : Int) (v8 v9 u1 u2 u3 u4 : Value) (h : Hp) (g : Nat → Value) : GoesT (evC (tabOf Tryz.prog extY conN true) 100 false (tmE Tryz.f132) (tmF o n c o' c' x k v8 v9 u1 u2 u3 u4 j ++ tl 27 g, h, []) ⟨[], [], []⟩) 7 37 (some none) [sl 2 o n c, sl 1 o' n c', uu x, undef, undef, undef, uu (IntKind.u32.wrap k)] h [] := ⟨by kernel_rfl, by kernel_rfl, by kernel_rfl⟩
theorem fR_get {F : List Value} {o : Nat} (hF : F.length = o) (dx : List Int) (x : Int) (px : List Int) (R : List Value) : (F ++ (wU (dx ++ x :: px) ++ R))[o + dx.length]? = some (uu x) := by
  rw [← List.append_assoc, List.getElem?_append_left (by unfold wU; simp; omega)]
  exact fU_get hF dx x px
theorem fR_set {F : List Value} {o : Nat} (hF : F.length = o) (dx : List Int) (x d : Int) (px : List Int) (R : List Value) : (F ++ (wU (dx ++ x :: px) ++ R)).set (o + dx.length) (uu d) = F ++ (wU ((dx ++ [d]) ++ px) ++ R) := by
  rw [← List.append_assoc, List.set_append_left _ _ (by unfold wU; simp; omega), fU_set hF, List.append_assoc]
/-- the words that come, and the word that is carried -/
def tmR (M B : List Int) (x : Int) : List Int := dg M.length (vN M + x * vN B)
def tmC (M B : List Int) (x : Int) : Int := (vN M + x * vN B) / 4294967296 ^ M.length
theorem tm_runs {F R la lb : List Value} {o c o' c' : Nat} {M LB : List Int} {x : Int} (hF : F.length = o) (hM : wds M) (RB : Row lb o' LB) (hl : M.length = LB.length) (hN : M.length < 1099511627776) (hx : 0 ≤ x ∧ x < 4294967296) (hc : M.length ≤ c) (hs : smallC c = true) :
    Runs (tabOf Tryz.prog extY conN true) (seqs (tmP Tryz.f132) (.seq (.seq (cFst (tmB Tryz.f132)) (.block 0 (.loop (tmL Tryz.f132)))) (tmE Tryz.f132))) ([sl 2 o M.length c, sl 1 o' M.length c', uu x] ++ List.replicate 41 undef, h3 la lb (F ++ (wU M ++ R)), []) fun e y => (e = none ∨ e = some none) ∧ resS Tryz.prog Tryz.f132 y.1 y.2.1 = some (uu (tmC M LB x)) ∧ y.2.1.cut 3 = h3 la lb (F ++ (wU (tmR M LB x) ++ R)) := by
  have hwB := RB.rng
  have hcs : c < 4611686018427387904 := blt_iff.1 hs
  refine goesT_list (tabY_ok conN_ok) (tm_pre o M.length c o' c' x _ la lb) (okTwo hs (okTwo (by unfold okPart; exact decide_eq_true (by omega)) (okOne (decide_eq_false (by omega))))) fun g => ?_
  refine Runs.seq (P1 := fun e' y => e' = none ∧ ∃ (k j : Int) (v8 v9 u1 u2 u3 u4 : Value) (g : Nat → Value), y.1 = tmF o M.length c o' c' x k v8 v9 u1 u2 u3 u4 j ++ tl 27 g ∧ (0 ≤ k ∧ k < 4294967296) ∧ k = tmC M LB x ∧ y.2.1 = h3 la lb (F ++ (wU (tmR M LB x) ++ R))) ?_ ?_ (fun e y he => by cases he.1)
  · refine Runs.seq (P1 := fun e' y => e' = none ∧ (∃ g, y.1 = tmF o M.length c o' c' x 0 undef undef (sl 2 o M.length c) (sl 1 o' M.length c') (i6' M.length) (sl 2 o M.length c) 0 ++ tl 27 g) ∧ y.2.1 = h3 la lb (F ++ (wU M ++ R))) (goesT_runs (tabY_ok conN_ok) (tm_r3 o M.length c o' c' x _ la lb g) (fun x hx => by cases hx)) ?_ (fun e y he => by cases he.1)
    rintro ⟨t, h', s'⟩ ⟨_, ⟨g1, ht⟩, hh⟩
    simp only at ht hh
    subst ht hh
    refine (Runs.forLoop (R := fun _ => False) (P := fun y => ∃ (k j : Int) (v8 v9 u1 u2 u3 u4 : Value) (g : Nat → Value), y.1 = tmF o M.length c o' c' x k v8 v9 u1 u2 u3 u4 j ++ tl 27 g ∧ (0 ≤ k ∧ k < 4294967296) ∧ k = tmC M LB x ∧ y.2.1 = h3 la lb (F ++ (wU (tmR M LB x) ++ R)))
      (fun r y => ∃ (dx px bx : List Int) (k : Int) (v8 v9 u1 u2 u3 u4 : Value) (g : Nat → Value), px.length = r ∧ dx.length + px.length = M.length ∧ wds dx ∧ wds px ∧ bx = LB.drop dx.length ∧ (0 ≤ k ∧ k < 4294967296) ∧ y.1 = tmF o M.length c o' c' x k v8 v9 u1 u2 u3 u4 dx.length ++ tl 27 g ∧ y.2.1 = h3 la lb (F ++ (wU (dx ++ px) ++ R)) ∧ vN dx + 4294967296 ^ dx.length * (vN px + x * vN bx + k) = vN M + x * vN LB)
      ?_ (n := M.length) ⟨[], M, LB, 0, undef, undef, _, _, _, _, g1, rfl, by simp, (fun x hx => by cases hx), hM, rfl, by omega, rfl, rfl, by simp [vN]⟩).mono fun e' y he => ?_
    · rintro r ⟨t, h', s'⟩ ⟨dx, px, bx, k, v8, v9, u1, u2, u3, u4, g, hr, hlen, wd1, wd2, hb, hk, ht, hh, hv⟩
      simp only at ht hh
      subst ht hh
      match px, hr, hlen, wd2, hv with
      | [], hr, hlen, wd2, hv =>
        have hl' : dx.length = M.length := by simpa using hlen
        refine (goesT_runs (tabY_ok conN_ok) (tm_out o M.length c o' c' x k dx.length v8 v9 u1 u2 u3 u4 _ la lb g) (okOne (decide_eq_false (by omega)))).mono fun e' y he => ?_
        obtain ⟨rfl, ⟨g1, e2⟩, e3⟩ := he
        have hbx : bx = [] := by rw [hb, List.drop_eq_nil_of_le (by omega)]
        subst hbx
        simp only [vN] at hv
        rw [Int.mul_zero, Int.zero_add, Int.zero_add] at hv
        have hbd := vN_bd dx wd1
        refine ⟨rfl, k, dx.length, v8, v9, u1, u2, u3, u4, g1, e2, hk, ?_, ?_⟩
        · unfold tmC
          rw [← hv, ← hl', Int.add_mul_ediv_left _ _ (by have := pw_pos dx.length; omega), Int.ediv_eq_zero_of_lt hbd.1 hbd.2, Int.zero_add]
        · unfold tmR
          rw [e3, ← hv, ← hl', dg_mod, dg_vN dx wd1, List.append_nil]
      | z :: px, hr, hlen, wd2, hv =>
        obtain ⟨wz, wd2⟩ := wds_tail wd2
        have hl' : dx.length < M.length := by simp at hlen; omega
        have hy := RB.cell (k := dx.length) (by omega)
        have hyr := hwB (LB.getD dx.length 0) (by
          have hk' : dx.length < LB.length := by omega
          simp [List.getD, List.getElem?_eq_getElem hk'])
        have hbx : bx = LB.getD dx.length 0 :: LB.drop (dx.length + 1) := by
          have hk' : dx.length < LB.length := by omega
          rw [hb, List.drop_eq_getElem_cons hk']
          simp [List.getD, List.getElem?_eq_getElem hk']
        generalize LB.getD dx.length 0 = yv at *
        obtain ⟨k1, k2, k3⟩ := tm_word hk hx hyr wz
        have cS := fR_get hF dx z px R
        have lS : o + dx.length < (F ++ (wU (dx ++ z :: px) ++ R)).length := (List.getElem?_eq_some_iff.1 cS).1
        have l1 : decide (o + ((dx.length : Int)).toNat * 1 < (F ++ (wU (dx ++ z :: px) ++ R)).length) = true := by
          rw [Int.toNat_natCast, Nat.mul_one]
          exact decide_eq_true lS
        have l2 : (inR dx.length M.length).1 = (inR dx.length M.length).2 := decide_eq_true (by omega)
        refine (goesT_runs (tabY_ok conN_ok) (tm_go o M.length c o' c' x k dx.length yv z v8 v9 u1 u2 u3 u4 _ la lb g) (okTwo (by decide) (okTwo l1 (okTwo l2 (okTwo (cel_ok cS) (okTwo l2 (okTwo (cel_ok hy) (okTwo l2 (okOne (decide_eq_true (by omega)))))))))) ).mono fun e' y he => ?_
        obtain ⟨rfl, ⟨g1, e2⟩, e3⟩ := he
        refine ⟨px.length, by simp at hr; omega, dx ++ [tD k x yv z], px, LB.drop (dx.length + 1), tC k x yv z, i6' dx.length, uu yv, u1, u2, u3, u4, g1, rfl, by simp at hlen ⊢; omega, wds_app wd1 (fun u hu => by rw [List.mem_singleton.1 hu]; exact k1), wd2, by simp, k2, ?_, ?_, ?_⟩
        · rw [e2, wrapI (by omega) (by omega)]
          simp
        · rw [e3, Int.toNat_natCast, Nat.mul_one, fR_set hF]
        · rw [hbx] at hv
          simp only [vN] at hv
          rw [vN_snoc, List.length_append, List.length_singleton, pw]
          exact tm_step k3 hv
    · match e', he with
      | none, he => exact ⟨rfl, he⟩
      | some none, he => exact he.elim
      | some (some _), he => exact he.elim
  · rintro ⟨t, h', s'⟩ ⟨_, k, j, v8, v9, u1, u2, u3, u4, g, ht, hk, hkv, hh⟩
    simp only at ht hh
    subst ht hh
    refine (goesT_runs (tabY_ok conN_ok) (tm_end o M.length c o' c' x k j v8 v9 u1 u2 u3 u4 _ g) (fun x hx => by cases hx)).mono fun e' y he => ?_
    obtain ⟨rfl, ⟨g1, e2⟩, e3⟩ := he
    have ek : IntKind.u32.wrap k = tmC M LB x := by rw [u32w, Int.emod_eq_of_lt hk.1 hk.2, hkv]
    rw [ek] at e2
    refine ⟨.inr rfl, ?_, ?_⟩
    · rw [e2, e3]
      rfl
    · rw [e3]
      rfl
def tmS (S : List Value) (o n : Nat) (L : List Int) : List Value := S.take o ++ (wU L ++ S.drop (o + n))
def okTm (S lb la : List Value) (t t' t'' : TypeId) (o n c o' n' c' : Nat) (x : Int) : Bool := Nat.beq t tU && Nat.beq t' tR && Nat.beq t'' tR && rowOk t S o n c && rowOk t' lb o' n' c' && Nat.beq n n' && Nat.blt n 1099511627776 && la.all still && decide (0 ≤ x ∧ x < 4294967296)
def gTms : AnsH := fun vals h s =>
  match vals, h with
  | [.slice (some ⟨2, o, none⟩) n c, .slice (some ⟨1, o', none⟩) n' c', .int .u32 x], ⟨3, [(S, t), (lb, t'), (la, t'')]⟩ => some (uu (tmC (cutI S o n) (cutI lb o' n') x), ⟨3, [(tmS S o n (tmR (cutI S o n) (cutI lb o' n') x), tU), (lb, tR), (la, tR)]⟩, s, [(okTm S lb la t t' t'' o n c o' n' c' x, true)])
  | _, _ => none
theorem gTms_ok : AnsHOk 132 gTms := by
  intro vals h s v h' s' lg hg hl m B w E hv
  unfold gTms at hg
  split at hg
  · rename_i o n c o' n' c' x S t lb t' la t''
    cases hg
    have q := hl _ (List.mem_singleton.2 rfl)
    unfold okTm at q
    simp only [Bool.and_eq_true, decide_eq_true_eq] at q
    obtain ⟨⟨⟨⟨⟨⟨⟨⟨q1, q2⟩, q3⟩, ra⟩, rb⟩, qn⟩, qN⟩, q5⟩, q6⟩ := q
    have q1 := Nat.eq_of_beq_eq_true q1
    have q2 := Nat.eq_of_beq_eq_true q2
    have q3 := Nat.eq_of_beq_eq_true q3
    have qn := Nat.eq_of_beq_eq_true qn
    have qN : n < 1099511627776 := blt_iff.1 qN
    subst q1 q2 q3 qn
    obtain ⟨a1, a2, a3, a4, a5, a6, a7⟩ := row_of ra
    obtain ⟨b1, b2, b3, b4, b5, b6, b7⟩ := row_of rb
    have eS : S = S.take o ++ (wU (cutI S o n) ++ S.drop (o + n)) := by
      have h1 := a1.cut
      rw [a2] at h1
      rw [← h1]
      unfold cutV
      rw [← List.drop_drop, List.take_append_drop, List.take_append_drop]
    have hF : (S.take o).length = o := by
      have := a1.len
      simp
      omega
    have r := tm_runs (R := S.drop (o + n)) (la := la) (c := c) (c' := c') hF a1.rng b1 (by rw [a2, b2]) (by rw [a2]; exact qN) q6 (by rw [a2]; exact a3) a4
    rw [a2, ← eS] at r
    have ht : (Hp.tight ⟨3, [(tmS S o n (tmR (cutI S o n) (cutI lb o' n) x), tU), (lb, tR), (la, tR)]⟩) = true := by
      unfold Hp.tight tmS
      simp only [List.all_cons, List.all_nil, List.all_append, Bool.and_true, Bool.and_eq_true]
      refine ⟨⟨?_, wU_tight _ _, ?_⟩, all_mono (by omega) (List.all_eq_true.2 b7), all_mono (by omega) q5⟩
      · rw [List.all_eq_true]
        exact fun v hv => still_lt (by omega) (a7 v (List.mem_of_mem_take hv))
      · rw [List.all_eq_true]
        exact fun v hv => still_lt (by omega) (a7 v (List.mem_of_mem_drop hv))
    exact hcalls_of_runs (T := tabOf Tryz.prog extY conN true) Tryz.func132 tm_body (vals := [sl 2 o n c, sl 1 o' n c', uu x]) (v := uu (tmC (cutI S o n) (cutI lb o' n) x)) (h := h3 la lb S) (by rfl) ht r m B w E hv
  · cases hg
def hcM : Hc := altH 132 gTms (altH 112 gTrim hcN)
theorem hcM_ok : HcOk hcM := altH_ok Tryz.func132 rfl gTms_ok (altH_ok Tryz.func112 rfl gTrim_ok hcN_ok)
def pdP (F : Func) : List Code := [cFst (sn 0 F), cFst (sn 1 F), cFst (sn 2 F), cFst (sn 3 F)]
def pdL (F : Func) : Code := cIn (cIn (cSnd (cFst (sn 4 F))))
def pdF (o n c o' n' c' z : Nat) (v7 v8 : Value) : List Value := [sl 0 o n c, sl 1 o' n' c', undef, undef, nilS, .nilIface, sl 2 0 z z, v7, v8]
theorem pd_body : Tryz.f115.body = some (seqs (pdP Tryz.f115) (.seq (.seq (cFst (cFst (sn 4 Tryz.f115))) (.block 0 (.loop (pdL Tryz.f115)))) (cSnd (sn 4 Tryz.f115)))) := by kernel_rfl
def pZ (n n' : Nat) : Int := IntKind.i64.wrap ((n : Int) + (n' : Int))
theorem pd_pre (o n c o' n' c' : Nat) (la lb : List Value) : GoesT (evL (tabH Tryz.prog extY conN hcM) 100 (pdP Tryz.f115) ([sl 0 o n c, sl 1 o' n' c'] ++ List.replicate 57 undef, h2 la lb, [cmp false, cmp false, cmp false, at_]) ⟨[], [], []⟩) 9 50 none (pdF o n c o' n' c' (pZ n n').toNat undef undef) (h3 la lb (List.replicate (pZ n n').toNat (uu 0))) [(okMakeB 4 (pZ n n') (pZ n n'), true), (decide (IntKind.i64.wrap (pZ n n' - 1) > 8192), false), ((n' : Int) == 0, false), ((n : Int) == 0, false)] := ⟨by kernel_rfl, by kernel_rfl, by kernel_rfl⟩
theorem pd_r (o n c o' n' c' z : Nat) (v7 v8 : Value) (la lb S : List Value) (g : Nat → Value) : GoesM (evC (tabH Tryz.prog extY conN hcM) 100 false (cFst (cFst (sn 4 Tryz.f115))) (pdF o n c o' n' c' z v7 v8 ++ tl 50 g, h3 la lb S, []) ⟨[], [], []⟩) 9 22 3 25 none (pdF o n c o' n' c' z v7 v8) [sl 0 o n c, i6' n, i6' 0] (h3 la lb S) [] := ⟨by kernel_rfl, by kernel_rfl, by kernel_rfl⟩
theorem pd_out (o n c o' n' c' z : Nat) (j : Int) (v7 v8 : Value) (la lb S : List Value) (g g' : Nat → Value) : GoesM (evC (tabH Tryz.prog extY conN hcM) 100 false (pdL Tryz.f115) (ml (pdF o n c o' n' c' z v7 v8) 22 g [sl 0 o n c, i6' n, i6' j] 25 g', h3 la lb S, [cmp false]) ⟨[], [], []⟩) 9 22 3 25 (some (some 0)) (pdF o n c o' n' c' z v7 v8) [sl 0 o n c, i6' n, i6' j] (h3 la lb S) [(decide (j < n), false)] := ⟨by kernel_rfl, by kernel_rfl, by kernel_rfl⟩
def pJ (j : Int) : Nat := 0 + j.toNat * 1
def pK (j : Int) (n' : Nat) : Int := IntKind.i64.wrap (j + n')
def pLn (j : Int) (n' : Nat) : Nat := (pK j n').toNat - j.toNat
def pS (S lb : List Value) (o' n' : Nat) (j x : Int) : List Value := tmS S (pJ j) (pLn j n') (tmR (cutI S (pJ j) (pLn j n')) (cutI lb o' n') x)
def pC (S lb : List Value) (o' n' : Nat) (j x : Int) : Int := tmC (cutI S (pJ j) (pLn j n')) (cutI lb o' n') x
theorem pd_go (o n c o' n' c' z : Nat) (j x : Int) (v7 v8 : Value) (la lb S : List Value) (g g' : Nat → Value) : GoesM (evC (tabH Tryz.prog extY conN hcM) 100 false (pdL Tryz.f115) (ml (pdF o n c o' n' c' z v7 v8) 22 g [sl 0 o n c, i6' n, i6' j] 25 g', h3 la lb S, [cmp true, at_, val (uu x), num 0, at_, at_]) ⟨[], [], []⟩) 9 22 3 25 none (pdF o n c o' n' c' z (i6' j) (uu x)) [sl 0 o n c, i6' n, i6' (IntKind.i64.wrap (j + 1))]
    (h3 la lb ((pS S lb o' n' j x).set (0 + (pK j n').toNat * 1) (uu (pC S lb o' n' j x))))
    [(decide (0 + (pK j n').toNat * 1 < (pS S lb o' n' j x).length), true), inR (pK j n') z, (okTm S lb la tU tR tR (pJ j) (pLn j n') (z - j.toNat) o' n' c' x, true), (smallC z, true), (okPart j (pK j n') z z, true), (decide ((z : Int) = j ∧ j ≠ 0), false), celR la o j x, inR j n, (decide (j < n), true)] := ⟨by kernel_rfl, by kernel_rfl, by kernel_rfl⟩
theorem pd_end (o n c o' n' c' z : Nat) (v7 v8 u1 u2 u3 : Value) (la lb S : List Value) (g g' : Nat → Value) : GoesT (evC (tabH Tryz.prog extY conN hcM) 100 false (cSnd (sn 4 Tryz.f115)) (ml (pdF o n c o' n' c' z v7 v8) 22 g [u1, u2, u3] 25 g', h3 la lb S, [cmp false]) ⟨[], [], []⟩) 6 53 (some none) [sl 0 o n c, sl 1 o' n' c', undef, undef, sl 2 0 (trimN (cutI S 0 z)) z, .nilIface] (h3 la lb S) [(decide ((trimN (cutI S 0 z) : Int) > 8192), false), (rowOk tU S 0 z z, true)] := ⟨by kernel_rfl, by kernel_rfl, by kernel_rfl⟩
theorem pd_n1 (p q : Option Addr) (n c n' c' : Nat) (h : Hp) : GoesT (evC (tabH Tryz.prog extY conN hcM) 100 false (cBody Tryz.f115) ([.slice p n c, .slice q n' c'] ++ List.replicate 57 undef, h, [cmp true]) ⟨[], [], []⟩) 6 53 (some none) [.slice p n c, .slice q n' c', undef, undef, nilS, .nilIface] h [((n : Int) == 0, true)] := ⟨by kernel_rfl, by kernel_rfl, by kernel_rfl⟩
theorem pd_n2 (p q : Option Addr) (n c n' c' : Nat) (h : Hp) : GoesT (evC (tabH Tryz.prog extY conN hcM) 100 false (cBody Tryz.f115) ([.slice p n c, .slice q n' c'] ++ List.replicate 57 undef, h, [cmp false, cmp true]) ⟨[], [], []⟩) 6 53 (some none) [.slice p n c, .slice q n' c', undef, undef, nilS, .nilIface] h [((n' : Int) == 0, true), ((n : Int) == 0, false)] := ⟨by kernel_rfl, by kernel_rfl, by kernel_rfl⟩
theorem pd_cbody : Tryz.f115.body = some (cBody Tryz.f115) := by kernel_rfl
end Go.Proofs.YtjlponbdflkbjaaGreatDoor.Na
namespace Go.Proofs.YtjlponbdflkbjaaGreatDoor.Na
open Go.KRun Go.Nt
set_option maxRecDepth 100000
def hcS : Hc := altH 117 gChk (altH 79 gLen (altH 119 gMup (altH 112 gTrim hcN)))
theorem hcS_ok : HcOk hcS := altH_ok Tryz.func117 rfl gChk_ok (altH_ok Tryz.func79 rfl gLen_ok (altH_ok Tryz.func119 rfl gMup_ok (altH_ok Tryz.func112 rfl gTrim_ok hcN_ok)))
def skI (k : Int) : Int := IntKind.i64.wrap (k.tdiv 32)
def rmI (k : Int) : Int := k.tmod 32
def zI (n : Nat) (k : Int) : Int := IntKind.i64.wrap (IntKind.i64.wrap (skI k + n) + 1)
def zN (n : Nat) (k : Int) : Nat := (zI n k).toNat
def oN (k : Int) : Nat := 0 + (skI k).toNat * 1
def pN (n : Nat) (k : Int) : Nat := zN n k - (skI k).toNat
def cpN (n : Nat) (k : Int) : Nat := Nat.min n (pN n k)
def cpL (la : List Value) (o n : Nat) (k : Int) : List Value := (List.replicate (zN n k) (uu 0)).take (oN k) ++ (la.drop o).take (cpN n k) ++ (List.replicate (zN n k) (uu 0)).drop (oN k + cpN n k)
def clOk (la : List Value) (o n : Nat) (k : Int) : Bool := !(tomb tR) && !(ro tU) && Nat.ble (o + cpN n k) la.length && Nat.ble (oN k + cpN n k) (List.replicate (zN n k) (uu 0)).length && ((la.drop o).take (cpN n k)).all one
def upM (la : List Value) (o n : Nat) (k : Int) : List Value := upS (cpL la o n k) (oN k) (pN n k) (rmI k)
def lnI (la : List Value) (o n : Nat) : Int := IntKind.i64.wrap (262144 - lenN (cutI la o n))
def fS (o n c : Nat) (k : Int) (r e : Value) : List Value := [sl 0 o n c, i6' k, undef, undef, r, e]
theorem shl_body : Tryz.f80.body = some (cBody Tryz.f80) := by kernel_rfl
theorem shl_bad (o n c : Nat) (k : Int) (la : List Value) : GoesT (evC (tabH Tryz.prog extY conN hcS) 200 false (cBody Tryz.f80) ([sl 0 o n c, i6' k] ++ List.replicate 45 undef, ⟨1, [(la, tR)]⟩, [cmp true]) ⟨[], [], []⟩) 6 41 (some none) (fS o n c k nilS (errV 1)) ⟨1, [(la, tR)]⟩ [chkL la o n c, (badL (cutI la o n), true)] := ⟨by kernel_rfl, by kernel_rfl, by kernel_rfl⟩
theorem shl_neg (o n c : Nat) (k : Int) (la : List Value) : GoesT (evC (tabH Tryz.prog extY conN hcS) 200 false (cBody Tryz.f80) ([sl 0 o n c, i6' k] ++ List.replicate 45 undef, ⟨1, [(la, tR)]⟩, [cmp false, cmp true]) ⟨[], [], []⟩) 6 41 (some none) (fS o n c k nilS (errV 1)) ⟨1, [(la, tR)]⟩ [(decide (k < 0), true), chkL la o n c, (badL (cutI la o n), false)] := ⟨by kernel_rfl, by kernel_rfl, by kernel_rfl⟩
theorem shl_nil (o n c : Nat) (k : Int) (la : List Value) : GoesT (evC (tabH Tryz.prog extY conN hcS) 200 false (cBody Tryz.f80) ([sl 0 o n c, i6' k] ++ List.replicate 45 undef, ⟨1, [(la, tR)]⟩, [cmp false, cmp false, cmp true]) ⟨[], [], []⟩) 6 41 (some none) (fS o n c k nilS .nilIface) ⟨1, [(la, tR)]⟩ [((n : Int) == 0, true), (decide (k < 0), false), chkL la o n c, (badL (cutI la o n), false)] := ⟨by kernel_rfl, by kernel_rfl, by kernel_rfl⟩
theorem shl_long (o n c : Nat) (k : Int) (la : List Value) : GoesT (evC (tabH Tryz.prog extY conN hcS) 200 false (cBody Tryz.f80) ([sl 0 o n c, i6' k] ++ List.replicate 45 undef, ⟨1, [(la, tR)]⟩, [cmp false, cmp false, cmp false, cmp true]) ⟨[], [], []⟩) 6 41 (some none) (fS o n c k nilS (errV 2)) ⟨1, [(la, tR)]⟩ [(decide (k > lnI la o n), true), chkL la o n c, ((n : Int) == 0, false), (decide (k < 0), false), chkL la o n c, (badL (cutI la o n), false)] := ⟨by kernel_rfl, by kernel_rfl, by kernel_rfl⟩
theorem shl_good (o n c : Nat) (k : Int) (la : List Value) : GoesT (evC (tabH Tryz.prog extY conN hcS) 200 false (cBody Tryz.f80) ([sl 0 o n c, i6' k] ++ List.replicate 45 undef, ⟨1, [(la, tR)]⟩, [cmp false, cmp false, cmp false, cmp false, at_, num 0, at_, num 0]) ⟨[], [], []⟩) 6 41 (some none) (fS o n c k (sl 1 0 (trimN (cutI (upM la o n k) 0 (zN n k))) (zN n k)) .nilIface) (hU (upM la o n k) la)
    [(rowOk tU (upM la o n k) 0 (zN n k) (zN n k), true), (Nat.beq tU tU, true), (Nat.beq tR tR, true), (rowOk tU (cpL la o n k) (oN k) (pN n k) (pN n k), true), (Nat.beq (oN k + pN n k) (cpL la o n k).length, true), (la.all still, true), (decide (0 ≤ rmI k ∧ rmI k < 32), true),
      (smallC (zN n k), true), (okPart (skI k) (zN n k) (zN n k) (zN n k), true), (decide (((zN n k : Nat) : Int) = skI k ∧ skI k ≠ 0), false), (clOk la o n k, true), (smallC (zN n k), true), (okPart (skI k) (zN n k) (zN n k) (zN n k), true), (decide (((zN n k : Nat) : Int) = skI k ∧ skI k ≠ 0), false), (okMakeB 4 (zI n k) (zI n k), true),
      (decide (k > lnI la o n), false), chkL la o n c, ((n : Int) == 0, false), (decide (k < 0), false), chkL la o n c, (badL (cutI la o n), false)] := ⟨by kernel_rfl, by kernel_rfl, by kernel_rfl⟩
end Go.Proofs.YtjlponbdflkbjaaGreatDoor.Na
namespace Go.Nt
theorem dg_skip : ∀ (s m : Nat) (V : Int), dg (s + m) (4294967296 ^ s * V) = List.replicate s 0 ++ dg m V
  | 0, m, V => by simp
  | s + 1, m, V => by
    rw [show s + 1 + m = (s + m) + 1 from by omega]
    simp only [dg]
    rw [pw, Int.mul_assoc]
    generalize hZ : (4294967296 : Int) ^ s * V = Z
    have e1 : (4294967296 * Z) % 4294967296 = 0 := by omega
    have e2 : (4294967296 * Z) / 4294967296 = Z := by omega
    rw [e1, e2, ← hZ, dg_skip s m V, List.replicate_succ, List.cons_append]
theorem two_split (K : Nat) : (2 : Int) ^ K = 4294967296 ^ (K / 32) * 2 ^ (K % 32) := by
  have e : (4294967296 : Int) = 2 ^ 32 := rfl
  rw [e, ← Int.pow_mul, ← Int.pow_add, show 32 * (K / 32) + K % 32 = K from by omega]
/-- words moved up by K bits -/
def shlR (L : List Int) (K : Nat) : List Int := dg (K / 32 + (L.length + 1)) (vN L * 2 ^ K)
theorem shlR_eq (L : List Int) (K : Nat) : shlR L K = List.replicate (K / 32) 0 ++ dg (L.length + 1) (vN L * 2 ^ (K % 32)) := by
  unfold shlR
  rw [two_split K, ← Int.mul_assoc, Int.mul_comm (vN L), Int.mul_assoc, dg_skip]
end Go.Nt
namespace Go.Proofs.YtjlponbdflkbjaaGreatDoor.Na
open Go.KRun Go.Nt
set_option maxRecDepth 100000
theorem lenN_bd {L : List Int} (hL : wds L) : 0 ≤ lenN L ∧ lenN L ≤ 262144 := by
  unfold lenN
  cases h : (L.length == 0 || badL L) with
  | true =>
    show (0 : Int) ≤ 0 ∧ (0 : Int) ≤ 262144
    omega
  | false =>
    simp only [Bool.or_eq_false_iff] at h
    have h8 := badL_len h.2
    have h0 : L.length ≠ 0 := by simpa using h.1
    have hx := hL (L.getD (L.length - 1) 0) (by
      have hk' : L.length - 1 < L.length := by omega
      simp [List.getD, List.getElem?_eq_getElem hk'])
    have := bitLen_32 hx.1 hx.2
    simp only
    omega
theorem sk_eq {K : Nat} (h : K ≤ 262144) : skI K = ((K / 32 : Nat) : Int) := by
  unfold skI
  have e : ((K : Nat) : Int).tdiv 32 = ((K / 32 : Nat) : Int) := rfl
  rw [e, wrapI (by omega) (by omega)]
theorem rm_eq (K : Nat) : rmI K = ((K % 32 : Nat) : Int) := rfl
theorem zI_eq {n K : Nat} (h : K ≤ 262144) (hn : n ≤ 8192) : zI n K = ((K / 32 + (n + 1) : Nat) : Int) := by
  unfold zI
  rw [sk_eq h, wrapI (n := ((K / 32 : Nat) : Int) + (n : Nat)) (by omega) (by omega), wrapI (by omega) (by omega)]
  omega
theorem zN_eq {n K : Nat} (h : K ≤ 262144) (hn : n ≤ 8192) : zN n K = K / 32 + (n + 1) := by unfold zN; rw [zI_eq h hn, Int.toNat_natCast]
theorem oN_eq {K : Nat} (h : K ≤ 262144) : oN K = K / 32 := by unfold oN; rw [sk_eq h, Int.toNat_natCast]; omega
theorem pN_eq {n K : Nat} (h : K ≤ 262144) (hn : n ≤ 8192) : pN n K = n + 1 := by unfold pN; rw [sk_eq h, zN_eq h hn, Int.toNat_natCast]; omega
theorem cpN_eq {n K : Nat} (h : K ≤ 262144) (hn : n ≤ 8192) : cpN n K = n := by unfold cpN; rw [pN_eq h hn]; simp
theorem cpL_eq {la : List Value} {o K : Nat} {L : List Int} (hR : Row la o L) (h : K ≤ 262144) (hn : L.length ≤ 8192) : cpL la o L.length K = wU (List.replicate (K / 32) 0 ++ (L ++ [0])) := by
  unfold cpL
  rw [cpN_eq h hn, zN_eq h hn, oN_eq h]
  have e1 : (la.drop o).take L.length = wU L := hR.cut
  rw [e1, List.drop_replicate, List.take_replicate, show K / 32 + (L.length + 1) - (K / 32 + L.length) = 1 from by omega, show min (K / 32) (K / 32 + (L.length + 1)) = K / 32 from by omega]
  unfold wU uu
  simp
theorem clOk_eq {la : List Value} {o K : Nat} {L : List Int} (hR : Row la o L) (h : K ≤ 262144) (hn : L.length ≤ 8192) : clOk la o L.length K = true := by
  unfold clOk
  rw [cpN_eq h hn, zN_eq h hn, oN_eq h]
  have e1 : (la.drop o).take L.length = wU L := hR.cut
  rw [e1, tR_tomb, tU_own]
  have h1 : Nat.ble (o + L.length) la.length = true := Nat.ble_eq_true_of_le hR.len
  have h2 : Nat.ble (K / 32 + L.length) (List.replicate (K / 32 + (L.length + 1)) (uu 0)).length = true := Nat.ble_eq_true_of_le (by rw [List.length_replicate]; omega)
  have h3 : ((wU L).all one) = true := by
    unfold wU
    rw [List.all_eq_true]
    intro v hv
    obtain ⟨x, _, rfl⟩ := List.mem_map.1 hv
    rfl
  rw [h1, h2, h3]
  rfl
theorem cutI_app (A B : List Int) : cutI (wU (A ++ B)) A.length B.length = B := by
  unfold cutI cutV wU
  rw [List.map_append, List.drop_append_of_le_length (by simp), show A.length = (A.map (Value.int .u32)).length from by simp, List.drop_length, List.nil_append, List.take_of_length_le (by simp), List.map_map]
  exact (List.map_congr_left fun x _ => rfl).trans (List.map_id' _)
theorem wds_rep (s : Nat) : wds (List.replicate s 0) := fun x hx => by rw [List.eq_of_mem_replicate hx]; omega
theorem wds_zero {L : List Int} (h : wds L) : wds (L ++ [0]) := wds_app h (fun x hx => by rw [List.mem_singleton.1 hx]; omega)
theorem upM_eq {la : List Value} {o K : Nat} {L : List Int} (hR : Row la o L) (h : K ≤ 262144) (hn : L.length ≤ 8192) : upM la o L.length K = wU (shlR L K) := by
  unfold upM upS
  rw [cpL_eq hR h hn, oN_eq h, pN_eq h hn, rm_eq, Int.toNat_natCast]
  have e1 := cutI_app (List.replicate (K / 32) 0) (L ++ [0])
  rw [List.length_replicate, List.length_append, List.length_singleton] at e1
  rw [e1, vN_snoc, Int.mul_zero, Int.add_zero, shlR_eq]
  unfold wU
  rw [List.map_append, List.map_append, List.take_append_of_le_length (by simp), List.take_of_length_le (by simp), List.map_append]
theorem rep_row {la : List Value} {o K : Nat} {L : List Int} (hR : Row la o L) (h : K ≤ 262144) (hn : L.length ≤ 8192) : rowOk tU (cpL la o L.length K) (oN K) (pN L.length K) (pN L.length K) = true := by
  rw [cpL_eq hR h hn, oN_eq h, pN_eq h hn]
  unfold rowOk
  have e1 := cutI_app (List.replicate (K / 32) 0) (L ++ [0])
  rw [show tomb tU = false from by kernel_rfl, show Nat.beq (rt tU) tU = true from by kernel_rfl, Nat.ble_eq_true_of_le (show K / 32 + (L.length + 1) ≤ (wU (List.replicate (K / 32) 0 ++ (L ++ [0]))).length by unfold wU; simp), Nat.ble_eq_true_of_le (Nat.le_refl _), show smallC (L.length + 1) = true from blt_iff.2 (by unfold dead; omega), wU_allS]
  have h3 : ((cutV (wU (List.replicate (K / 32) 0 ++ (L ++ [0]))) (K / 32) (L.length + 1)).all isU) = true := by
    rw [List.all_eq_true]
    intro v hv
    unfold cutV wU at hv
    obtain ⟨x, hx, rfl⟩ := List.mem_map.1 (List.mem_of_mem_drop (List.mem_of_mem_take hv))
    exact decide_eq_true ((wds_app (wds_rep _) (wds_zero hR.rng)) x hx)
  rw [h3]
  rfl
theorem shl_runs {la : List Value} {o n c K : Nat} (ha : rowOk tR la o n c = true) (hb : badL (cutI la o n) = false) (h0 : n ≠ 0) (hK : (K : Int) ≤ 262144 - lenN (cutI la o n)) :
    Runs (tabH Tryz.prog extY conN hcS) (cBody Tryz.f80) ([sl 0 o n c, i6' K] ++ List.replicate 45 undef, ⟨1, [(la, tR)]⟩, []) fun e y => (e = none ∨ e = some none) ∧ resS Tryz.prog Tryz.f80 y.1 y.2.1 = some (.tuple #[sl 1 0 (trimN (shlR (cutI la o n) K)) (K / 32 + (n + 1)), .nilIface]) ∧ y.2.1.blk? 1 = some (wU (shlR (cutI la o n) K), tU) := by
  obtain ⟨a1, a2, a3, a4, a5, a6, a7⟩ := row_of ha
  have h8 := badL_len hb
  have hl := lenN_bd a1.rng
  have g0 := shl_good o n c K la
  have lI : lnI la o n = 262144 - lenN (cutI la o n) := by unfold lnI; rw [wrapI (by omega) (by omega)]
  rw [lI] at g0
  generalize hL : cutI la o n = L at *
  subst a2
  have hK2 : K ≤ 262144 := by omega
  rw [upM_eq a1 hK2 h8] at g0
  have ez := zN_eq (n := L.length) hK2 h8
  have esm : smallC (zN L.length K) = true := blt_iff.2 (by rw [ez]; unfold dead; omega)
  have r1 := wU_row (dg_wds (K / 32 + (L.length + 1)) (vN L * 2 ^ K)) (c := zN L.length K) (by rw [dg_len, ez]; exact Nat.le_refl _) esm
  rw [dg_len, ← ez] at r1
  have r2 : rowOk tU (wU (shlR L K)) 0 (zN L.length K) (zN L.length K) = true := by unfold shlR; rw [← ez]; exact r1.1
  have r3 : cutI (wU (shlR L K)) 0 (zN L.length K) = shlR L K := by unfold shlR; rw [← ez]; exact r1.2
  have part : okPart (skI K) (zN L.length K) (zN L.length K) (zN L.length K) = true := by unfold okPart; rw [sk_eq hK2, ez]; exact decide_eq_true (by omega)
  have part2 : decide (((zN L.length K : Nat) : Int) = skI K ∧ skI K ≠ 0) = false := by rw [sk_eq hK2, ez]; exact decide_eq_false (by omega)
  have mk : okMakeB 4 (zI L.length K) (zI L.length K) = true := by unfold okMakeB; rw [zI_eq hK2 h8]; exact decide_eq_true (by omega)
  have len : Nat.beq (oN K + pN L.length K) (cpL la o L.length K).length = true := by
    rw [cpL_eq a1 hK2 h8, oN_eq hK2, pN_eq hK2 h8]
    unfold wU
    simp
  have calm : la.all still = true := List.all_eq_true.2 a7
  have d1 : decide (0 ≤ rmI K ∧ rmI K < 32) = true := by rw [rm_eq]; exact decide_eq_true (by omega)
  have d2 : decide ((K : Int) > 262144 - lenN L) = false := decide_eq_false (by omega)
  have d3 : ((L.length : Int) == 0) = false := by simpa using h0
  have d4 : decide ((K : Int) < 0) = false := decide_eq_false (by omega)
  refine (goesT_runs (tabH_ok conN_ok hcS_ok) g0 (okTwo r2 (okTwo (by kernel_rfl) (okTwo (by kernel_rfl) (okTwo (rep_row a1 hK2 h8) (okTwo len (okTwo calm (okTwo d1
    (okTwo esm (okTwo part (okTwo part2 (okTwo (clOk_eq a1 hK2 h8) (okTwo esm (okTwo part (okTwo part2 (okTwo mk (okTwo d2 (okTwo ha (okTwo d3 (okTwo d4 (okTwo ha (okOne hb)))))))))))))))))))))).mono fun e y he => ?_
  obtain ⟨rfl, ⟨g, e2⟩, e3⟩ := he
  refine ⟨.inr rfl, ?_, ?_⟩
  · rw [e2, e3, r3, ez]
    rfl
  · rw [e3]
    rfl
theorem shl_row {la : List Value} {o n c : Nat} {k : Int} {r e : Value} {cs : Log} {s : List Dec} (g0 : GoesT (evC (tabH Tryz.prog extY conN hcS) 200 false (cBody Tryz.f80) ([sl 0 o n c, i6' k] ++ List.replicate 45 undef, ⟨1, [(la, tR)]⟩, s) ⟨[], [], []⟩) 6 41 (some none) (fS o n c k r e) ⟨1, [(la, tR)]⟩ cs) (hcs : okLog cs)
    (hres : ∀ g, resS Tryz.prog Tryz.f80 (fS o n c k r e ++ tl 41 g) ⟨1, [(la, tR)]⟩ = some (.tuple #[r, e])) :
    Runs (tabH Tryz.prog extY conN hcS) (cBody Tryz.f80) ([sl 0 o n c, i6' k] ++ List.replicate 45 undef, ⟨1, [(la, tR)]⟩, []) fun e' y => (e' = none ∨ e' = some none) ∧ resS Tryz.prog Tryz.f80 y.1 y.2.1 = some (.tuple #[r, e]) := by
  refine (goesT_runs (tabH_ok conN_ok hcS_ok) g0 hcs).mono fun e' y he => ?_
  obtain ⟨rfl, ⟨g, e2⟩, e3⟩ := he
  refine ⟨.inr rfl, ?_⟩
  rw [e2, e3]
  exact hres g
def gShl : AnsH := fun vals h s =>
  match vals with
  | [.slice (some ⟨b, o, none⟩) n c, .int .i64 k] =>
    match h.blk? b, s with
    | some x, .inr (.inr (.inr (.inl true))) :: s' => some (.tuple #[nilS, errV 1], h, s', [(rowOk x.2 x.1 o n c, true), (badL (cutI x.1 o n) || decide (k < 0), true)])
    | some x, .inr (.inr (.inr (.inl false))) :: .inr (.inr (.inr (.inl true))) :: s' => some (.tuple #[nilS, .nilIface], h, s', [(rowOk x.2 x.1 o n c, true), (badL (cutI x.1 o n) || decide (k < 0), false), (decide (n = 0), true)])
    | some x, .inr (.inr (.inr (.inl false))) :: .inr (.inr (.inr (.inl false))) :: .inr (.inr (.inr (.inl true))) :: s' => some (.tuple #[nilS, errV 2], h, s', [(rowOk x.2 x.1 o n c, true), (badL (cutI x.1 o n) || decide (k < 0), false), (decide (n = 0), false), (decide (k > 262144 - lenN (cutI x.1 o n)), true)])
    | some x, .inr (.inr (.inr (.inl false))) :: .inr (.inr (.inr (.inl false))) :: .inr (.inr (.inr (.inl false))) :: s' => some (.tuple #[sl h.n 0 (trimN (shlR (cutI x.1 o n) k.toNat)) (k.toNat / 32 + (n + 1)), .nilIface], h.push (wU (shlR (cutI x.1 o n) k.toNat)) tU, s', [(rowOk x.2 x.1 o n c, true), (badL (cutI x.1 o n) || decide (k < 0), false), (decide (n = 0), false), (decide (k > 262144 - lenN (cutI x.1 o n)), false)])
    | _, _ => none
  | _ => none
theorem gShl_ok : AnsHOk 80 gShl := by
  intro vals h s v h' s' lg hg hl m B w E hv
  unfold gShl at hg
  split at hg
  · rename_i b o n c k
    have one1 : ∀ x : List Value × TypeId, h.blk? b = some x → rowOk x.2 x.1 o n c = true → ∀ v0 : Value, oc (List.range 1) v0 = true → rn (fun _ => b) v0 = v0 →
        Runs (tabH Tryz.prog extY conN hcS) (cBody Tryz.f80) ([sl 0 o n c, i6' k] ++ List.replicate 45 undef, ⟨1, [(x.1, tR)]⟩, []) (fun e y => (e = none ∨ e = some none) ∧ resS Tryz.prog Tryz.f80 y.1 y.2.1 = some v0) →
        Calls Tryz.prog 80 (([.slice (some ⟨b, o, none⟩) n c, .int .i64 k] : List Value).map (mv m)).toArray w fun e w' => ∃ m', e = .returned (mv m' v0) ∧ Came m B h w v0 h m' w' := by
      intro x hx ra v0 ho e0 r
      obtain ⟨a1, a2, a3, a4, a5, a6, a7⟩ := row_of ra
      have hlt := Hp.blk_lt hx
      have := row_calls (T := tabH Tryz.prog extY conN hcS) Tryz.func80 shl_body (rows1 a7) (vals := [sl 0 o n c, i6' k]) (fun v hv => by
        simp only [List.mem_cons, List.not_mem_nil, or_false] at hv
        rcases hv with rfl | rfl <;> rfl) ho r E (s := fun _ => b) (fun i _ => hlt) (fitsR1 hx a5 a6 rfl)
      rw [e0] at this
      exact this.mono fun e w' he => ⟨m, he.1, he.2⟩
    split at hg
    · rename_i x s2 hx
      cases hg
      have ra := hl _ (List.mem_cons_self)
      have hd := hl _ (List.mem_cons_of_mem _ (List.mem_singleton.2 rfl))
      simp only at hd
      refine one1 x hx ra _ (by rfl) (rn_still (by rfl)) ?_
      cases hb : badL (cutI x.1 o n) with
      | true => exact shl_row (shl_bad o n c k x.1) (okTwo (rowOk_R ra) (okOne hb)) (fun _ => rfl)
      | false =>
        rw [hb, Bool.false_or] at hd
        exact shl_row (shl_neg o n c k x.1) (okTwo hd (okTwo (rowOk_R ra) (okOne hb))) (fun _ => rfl)
    · rename_i x s2 hx
      cases hg
      have ra := hl _ (List.mem_cons_self)
      have hd := hl _ (List.mem_cons_of_mem _ List.mem_cons_self)
      have h0 := of_decide_eq_true (hl _ (List.mem_cons_of_mem _ (List.mem_cons_of_mem _ (List.mem_singleton.2 rfl))))
      simp only [Bool.or_eq_false_iff] at hd
      have d3 : ((n : Int) == 0) = true := by rw [h0]; rfl
      exact one1 x hx ra _ (by rfl) (rn_still (by rfl)) (shl_row (shl_nil o n c k x.1) (okTwo d3 (okTwo hd.2 (okTwo (rowOk_R ra) (okOne hd.1)))) (fun _ => rfl))
    · rename_i x s2 hx
      cases hg
      have ra := hl _ (List.mem_cons_self)
      have hd := hl _ (List.mem_cons_of_mem _ List.mem_cons_self)
      have h0 := of_decide_eq_false (hl _ (List.mem_cons_of_mem _ (List.mem_cons_of_mem _ List.mem_cons_self)))
      have hk := hl _ (List.mem_cons_of_mem _ (List.mem_cons_of_mem _ (List.mem_cons_of_mem _ (List.mem_singleton.2 rfl))))
      simp only [Bool.or_eq_false_iff] at hd
      have d3 : ((n : Int) == 0) = false := by simpa using h0
      obtain ⟨a1, a2, a3, a4, a5, a6, a7⟩ := row_of ra
      have hle := lenN_bd a1.rng
      have lI : lnI x.1 o n = 262144 - lenN (cutI x.1 o n) := by unfold lnI; rw [wrapI (by omega) (by omega)]
      have g0 := shl_long o n c k x.1
      rw [lI] at g0
      exact one1 x hx ra _ (by rfl) (rn_still (by rfl)) (shl_row g0 (okTwo hk (okTwo (rowOk_R ra) (okTwo d3 (okTwo hd.2 (okTwo (rowOk_R ra) (okOne hd.1)))))) (fun _ => rfl))
    · rename_i x s2 hx
      cases hg
      have ra := hl _ (List.mem_cons_self)
      have hd := hl _ (List.mem_cons_of_mem _ List.mem_cons_self)
      have h0 := of_decide_eq_false (hl _ (List.mem_cons_of_mem _ (List.mem_cons_of_mem _ List.mem_cons_self)))
      have hk := of_decide_eq_false (hl _ (List.mem_cons_of_mem _ (List.mem_cons_of_mem _ (List.mem_cons_of_mem _ (List.mem_singleton.2 rfl)))))
      simp only [Bool.or_eq_false_iff] at hd
      have hk0 := of_decide_eq_false hd.2
      obtain ⟨K, rfl⟩ := Int.eq_ofNat_of_zero_le (show 0 ≤ k by omega)
      rw [Int.toNat_natCast]
      obtain ⟨a1, a2, a3, a4, a5, a6, a7⟩ := row_of ra
      have r := shl_runs (K := K) (rowOk_R ra) hd.1 h0 (by omega)
      have e1 : ∀ j M : Nat, rn (fun _ => h.n) (.tuple #[sl 1 0 j M, .nilIface]) = .tuple #[sl h.n 0 j M, .nilIface] := fun j M => by simp [rn, rn2, rn1, sl]
      have := row_calls1 (T := tabH Tryz.prog extY conN hcS) Tryz.func80 shl_body (rows1 a7) (vals := [sl 0 o n c, i6' K]) (fun v hv => by
        simp only [List.mem_cons, List.not_mem_nil, or_false] at hv
        rcases hv with rfl | rfl <;> rfl) (k := 1) (wU_calm _) tU_own (r.w.mono fun e y h => ⟨h.1, h.2.1, [], by rw [List.append_nil]; exact h.2.2⟩) (by rfl) E (s := fun _ => b) (fitsR1 hx a5 a6 rfl)
      rw [e1] at this
      exact this
    · cases hg
  · cases hg
end Go.Proofs.YtjlponbdflkbjaaGreatDoor.Na
