/-
  Contracts with numbers told ahead, for products.
-/
import Derived.Test.YtecemjilmlagdaaDoorG24
import Derived.Test.YtecemjilmlagdaaDoorG26
import Derived.Test.YtecemjilmlagdaaDoorG29
import Derived.Test.YtecemjilmlagdaaDoorG12
import Derived.Test.YtecemjilmlagdaaDoorG27
namespace Go.Proofs.YtecemjilmlagdaaDoor
open Go.KRun Go.Nt
set_option maxRecDepth 100000
set_option linter.unusedVariables false

def gPdN : AnsH := fun vals h s =>
  match vals, s with
  | [.slice p n c, .slice q n' c'], .inr (.inr (.inr (.inl true))) :: s' => some (.tuple #[nilS, .nilIface], h, s', [(decide (n = 0 ∨ n' = 0), true)])
  | [.slice p n c, .slice q n' c'], .inr (.inr (.inr (.inl false))) :: .inr (.inl V) :: s' => some (.tuple #[sl h.n 0 (trimN (dg (n + n') V)) (n + n'), .nilIface], h.push (wU (dg (n + n') V)) tU, s', [(decide (mulR (rowOf h p n) (rowOf h q n') = dg (n + n') V), true), (rowX h p n c, true), (rowX h q n' c', true), (!decide (n = 0 ∨ n' = 0) && Nat.ble (n + n') 8192, true)])
  | _, _ => none
theorem gPdN_ok : AnsHOk 45 gPdN := by
  intro vals h s v h' s' lg hg hl
  unfold gPdN at hg
  split at hg
  · cases hg
    exact gPdU_ok _ h [cmp true] _ _ [] _ rfl hl
  · rename_i p n c q n' c' V s3
    cases hg
    obtain ⟨l1, l2⟩ := log_tl hl
    have l1 := of_decide_eq_true l1
    refine gPdU_ok _ h [cmp false] _ _ [] _ ?_ l2
    simp only [gPdU, l1]
  · cases hg
def hcN3 : Hc := altH 45 gPdN (altH 23 gUmulN hcN2)
theorem hcN3_ok : HcOk hcN3 := altH_ok Tryd.func45 rfl gPdN_ok (altH_ok Tryd.func23 rfl gUmulN_ok hcN2_ok)
theorem tabN3 : TabOk (tabH Tryd.prog extY conLw hcN3) := tabH_ok conLw_ok hcN3_ok
section
variable {w : World} {i j : Nat} {va vb' : Value} {xa xb : List Value × TypeId} {ka kb : Nat × Nat} {pa pb : Option Addr} {na ca nb cb : Nat} {LA LB : List Int} {H : Hp}
theorem aMul (Ha : Arg w i va xa ka pa na ca LA) (Hb : Arg w j vb' xb kb pb nb cb LB) (h1 : H.blk? i = some xa) (h2 : H.blk? j = some xb) {A B : Nat} (ha : vb 4294967296 LA = A) (hb : vb 4294967296 LB = B) : decide (mulR (rowOf H pa na) (rowOf H pb nb) = dg (na + nb) ((A * B : Nat) : Int)) = true := by
  refine decide_eq_true ?_
  rw [(Ha.row h1).2.1, (Hb.row h2).2.1]
  unfold mulR
  rw [(Ha.row h1).2.2.1, (Hb.row h2).2.2.1, vN_vb (Ha.row h1).2.2.2, vN_vb (Hb.row h2).2.2.2, ha, hb, Int.natCast_mul]
end
section
variable {H : Hp} {p q : Option Addr} {n c n' c' V W : Nat}
theorem iMul (h : Is16 H p n c V) (g : Is16 H q n' c' W) : decide (vO H p n * vO H q n' = V * W) = true := by
  rw [h.v, g.v]
  exact decide_eq_true rfl
theorem iMu (h : Is16 H p n c V) (g : Is16 H q n' c' W) : okMu H p q n c n' c' = true := by
  unfold okMu
  rw [h.1, g.1, h.2.1, g.2.1, dgB_mk (d16_dg V), dgB_mk (d16_dg W), blt_iff.2 (by have := h.2.2.2; have := g.2.2.2; omega)]
  rfl
end
theorem len0 {V : Nat} (h : V = 0) : (d16 V).length = 0 := by
  subst h
  rw [d16_0]
  rfl
theorem mul_lt {x y m k : Nat} (hx : x < 4294967296 ^ m) (hy : y < 4294967296 ^ k) : x * y < 4294967296 ^ (m + k) := by
  rw [Nat.pow_add]
  exact Nat.mul_lt_mul'' hx hy
end Go.Proofs.YtecemjilmlagdaaDoor

/-
  nat.takeOff and nat.putBack, piece by piece.
-/
namespace Go.Proofs.YtecemjilmlagdaaDoor
open Go.KRun Go.Nt
set_option maxRecDepth 100000
set_option linter.unusedVariables false

def h5 (la lb R Y Q : List Value) : Hp := ⟨5, [(Q, tU), (Y, tU), (R, tU), (lb, tR), (la, tR)]⟩
def toT (k x d : Int) : Int := IntKind.u64.wrap (k + IntKind.u64.wrap (IntKind.u64.wrap x * IntKind.u64.wrap d))
def toW (k x d : Int) : Int := IntKind.u32.wrap (toT k x d)
def toC (k x d : Int) : Int := (toT k x d).fdiv (2 ^ min (Int.toNat 32) 64)
def toP (F : Func) : List Code := [cFst (sn 0 F), cFst (sn 1 F), cFst (sn 2 F), cFst (sn 3 F), cFst (sn 4 F)]
def toB (F : Func) : Code := cFst (sn 5 F)
def toL (F : Func) : Code := cIn (cIn (cSnd (toB F)))
def toF (o m c n k : Nat) (d cy b : Int) (v11 v12 : Value) : List Value := [sl 2 o m c, sl 3 0 n k, uu d, undef, undef, undef, .bool false, i6' n, sl 2 o n c, .int .u64 cy, uu b, v11, v12]
theorem to_body : Tryd.f67.body = some (seqs (toP Tryd.f67) (.seq (.seq (cFst (toB Tryd.f67)) (.block 0 (.loop (toL Tryd.f67)))) (sn 6 Tryd.f67))) := by kernel_rfl
theorem to_pre (o m c n k : Nat) (d : Int) (la lb R Y Q : List Value) : GoesT (evL (tabOf Tryd.prog extY conB true) 100 (toP Tryd.f67) ([sl 2 o m c, sl 3 0 n k, uu d] ++ List.replicate 62 undef, h5 la lb R Y Q, [num 0]) ⟨[], [], []⟩) 13 52 none (toF o m c n k d 0 0 undef undef) (h5 la lb R Y Q) [(smallC c, true), (okPart 0 n c c, true), (decide ((c : Int) = 0 ∧ (0 : Int) ≠ 0), false)] := ⟨by kernel_rfl, by kernel_rfl, by kernel_rfl⟩
theorem to_r (o m c n k : Nat) (d cy b : Int) (v11 v12 : Value) (h : Hp) (g : Nat → Value) : GoesM (evC (tabOf Tryd.prog extY conB true) 100 false (cFst (toB Tryd.f67)) (toF o m c n k d cy b v11 v12 ++ tl 52 g, h, []) ⟨[], [], []⟩) 13 5 3 44 none (toF o m c n k d cy b v11 v12) [sl 3 0 n k, i6' n, i6' 0] h [] := ⟨by kernel_rfl, by kernel_rfl, by kernel_rfl⟩
theorem to_out (o m c n k : Nat) (d cy b j : Int) (v11 v12 : Value) (h : Hp) (g g' : Nat → Value) : GoesM (evC (tabOf Tryd.prog extY conB true) 100 false (toL Tryd.f67) (ml (toF o m c n k d cy b v11 v12) 5 g [sl 3 0 n k, i6' n, i6' j] 44 g', h, [cmp false]) ⟨[], [], []⟩) 13 5 3 44 (some (some 0)) (toF o m c n k d cy b v11 v12) [sl 3 0 n k, i6' n, i6' j] h [(decide (j < n), false)] := ⟨by kernel_rfl, by kernel_rfl, by kernel_rfl⟩
theorem to_go (o m c n k : Nat) (d cy b j x y : Int) (v11 v12 : Value) (la lb R Y Q : List Value) (g g' : Nat → Value) : GoesM (evC (tabOf Tryd.prog extY conB true) 100 false (toL Tryd.f67) (ml (toF o m c n k d cy b v11 v12) 5 g [sl 3 0 n k, i6' n, i6' j] 44 g', h5 la lb R Y Q, [cmp true, at_, val (uu x), at_, val (uu y), at_, at_]) ⟨[], [], []⟩) 13 5 3 44 none (toF o m c n k d (toC cy x d) (subB y (toW cy x d) b) (i6' j) (uu x)) [sl 3 0 n k, i6' n, i6' (IntKind.i64.wrap (j + 1))] (h5 la lb (R.set (o + j.toNat * 1) (uu (subD y (toW cy x d) b))) Y Q)
    [(decide ((32 : Int) < 0), false), (decide (o + j.toNat * 1 < R.length), true), inR j n, (wd4 y (toW cy x d) b, true), celR R o j y, inR j n, celR Y 0 j x, inR j n, (decide (j < n), true)] := ⟨by kernel_rfl, by kernel_rfl, by kernel_rfl⟩
theorem to_end (e : Bool) (o m c n k : Nat) (d cy b y : Int) (v11 v12 u1 u2 u3 : Value) (la lb R Y Q : List Value) (g g' : Nat → Value) : GoesT (evC (tabOf Tryd.prog extY conB true) 100 false (sn 6 Tryd.f67) (ml (toF o m c n k d cy b v11 v12) 5 g [u1, u2, u3] 44 g', h5 la lb R Y Q, [at_, val (uu y), at_, at_, cmp e]) ⟨[], [], []⟩) 7 58 (some none) [sl 2 o m c, sl 3 0 n k, uu d, undef, undef, undef, .bool e] (h5 la lb (R.set (o + ((n : Int)).toNat * 1) (uu (subD y (IntKind.u32.wrap cy) b))) Y Q)
    [(subB y (IntKind.u32.wrap cy) b != 0, e), (decide (o + ((n : Int)).toNat * 1 < R.length), true), inR n m, (wd4 y (IntKind.u32.wrap cy) b, true), celR R o n y, inR n m] := by
  cases e <;> exact ⟨by kernel_rfl, by kernel_rfl, by kernel_rfl⟩
end Go.Proofs.YtecemjilmlagdaaDoor

/-
  Numbers: a row, and a word times a row taken off it.
-/
namespace Go.Nt

theorem to_step {P a b x y k br d e l A B D W : Int} (hk : k + x * d = W + 4294967296 * e) (hs : y - W - br = D - 4294967296 * l) (h : a + P * ((y + 4294967296 * A) - d * (x + 4294967296 * B) - k - br) = b) : a + P * D + 4294967296 * P * (A - d * B - e - l) = b := by
  rw [← h]
  have e1 : (y + 4294967296 * A) - d * (x + 4294967296 * B) - k - br = D + 4294967296 * (A - d * B - e - l) := by
    rw [Int.mul_add d x, ← Int.mul_assoc d 4294967296 B, Int.mul_comm d 4294967296, Int.mul_assoc 4294967296 d B, Int.mul_comm d x]
    omega
  rw [e1]
  generalize A - d * B - e - l = Z
  rw [Int.mul_add P D, ← Int.mul_assoc P 4294967296 Z, Int.mul_comm P 4294967296]
  omega
theorem pb_step {P a b x y br e A B D : Int} (hs : y + x + br = D + 4294967296 * e) (h : a + P * ((y + 4294967296 * A) + (x + 4294967296 * B) + br) = b) : a + P * D + 4294967296 * P * (A + B + e) = b := by
  rw [← h]
  have e1 : (y + 4294967296 * A) + (x + 4294967296 * B) + br = D + 4294967296 * (A + B + e) := by omega
  rw [e1]
  generalize A + B + e = Z
  rw [Int.mul_add P D, ← Int.mul_assoc P 4294967296 Z, Int.mul_comm P 4294967296]
  omega
/-- the last word: what comes, and whether it went below 0 or beyond -/
theorem last_word {dx : List Int} {D l V : Int} (hd : wds dx) (hD : 0 ≤ D ∧ D < 4294967296) (h : vN dx + 4294967296 ^ dx.length * (D + 4294967296 * l) = V) : dx ++ [D] = dg (dx.length + 1) V ∧ V / 4294967296 ^ (dx.length + 1) = l := by
  have hw : wds (dx ++ [D]) := wds_app hd (fun x hx => by rw [List.mem_singleton.1 hx]; exact hD)
  have hv : vN (dx ++ [D]) + 4294967296 ^ (dx.length + 1) * l = V := by
    rw [vN_snoc, ← h, pw, Int.mul_add, ← Int.mul_assoc, Int.mul_comm (4294967296 ^ dx.length) 4294967296]
    omega
  have hl : (dx ++ [D]).length = dx.length + 1 := by simp
  have hb := vN_bd (dx ++ [D]) hw
  rw [hl] at hb
  constructor
  · rw [← hv, dg_mod, ← hl]
    exact (dg_vN _ hw).symm
  · rw [← hv, Int.add_mul_ediv_left _ _ (by have := pw_pos (dx.length + 1); omega), Int.ediv_eq_zero_of_lt hb.1 hb.2, Int.zero_add]
theorem neg_div {V Q l : Int} (hQ : 0 < Q) (h : V / Q = l) : V < 0 ↔ l < 0 := by
  subst h
  constructor
  · intro hv
    exact Int.ediv_lt_of_lt_mul hQ (by omega)
  · intro hl
    refine Decidable.byContradiction fun hn => ?_
    have := Int.ediv_nonneg (a := V) (b := Q) (by omega) (by omega)
    omega
end Go.Nt
