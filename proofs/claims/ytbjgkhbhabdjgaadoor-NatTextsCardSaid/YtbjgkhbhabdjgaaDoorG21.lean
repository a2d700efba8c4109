/-
  The document's Words (tillerref02), as a contract.
-/
import Derived.Test.YtbjgkhbhabdjgaaDoorG19
import Derived.Test.YtbjgkhbhabdjgaaDoorG06
import Derived.Test.YtbjgkhbhabdjgaaDoorG20
import Derived.Test.YtbjgkhbhabdjgaaDoorG18
import Derived.Test.YtbjgkhbhabdjgaaDoorG03
import Derived.Test.YtbjgkhbhabdjgaaDoorG05
import Derived.WalkKit
import Derived.LaidEql
import Derived.Stop.Asserts
import Derived.RowKitTokens
namespace Go.Proofs.YtbjgkhbhabdjgaaDoor
open Go.KRun Go.Nt
set_option maxRecDepth 100000
set_option linter.unusedVariables false

def wdP (F : Func) : List Code := [cFst (cBody F), cFst (cSnd (cBody F))]
def wdB (F : Func) : Code := cFst (cSnd (cSnd (cBody F)))
def wdL (F : Func) : Code := cIn (cIn (cSnd (wdB F)))
def wdE (F : Func) : Code := cSnd (cSnd (cSnd (cBody F)))
theorem wd_body : Tryd.f19.body = some (seqs (wdP Tryd.f19) (.seq (.seq (cFst (wdB Tryd.f19)) (.block 0 (.loop (wdL Tryd.f19)))) (wdE Tryd.f19))) := by kernel_rfl
def inW (i : Int) (n : Nat) : Bool × Bool := (decide (0 ≤ i ∧ i < (n : Int)), true)
def ceW (l : List Value) (o : Nat) (i x : Int) : Bool × Bool := (cellIs (l[o + i.toNat * 1]?) (.int .u32 x), true)
def i1W (i : Int) : Int := IntKind.i64.wrap (i + 1)
def i2W (i : Int) : Int := IntKind.i64.wrap (i + 2)
def xyW (x y : Int) : Int := IntKind.u32.wrap (x + IntKind.u32.wrap (65536 * y))
def l2W (l : List Value) (o n : Nat) (i x y : Int) : Log := [ceW l o (i1W i) y, inW (i1W i) n, (decide (i1W i < (n : Int)), true), ceW l o i x, inW i n, (decide (i < (n : Int)), true)]
def l1W (l : List Value) (o n : Nat) (i x : Int) : Log := [(decide (i1W i < (n : Int)), false), ceW l o i x, inW i n, (decide (i < (n : Int)), true)]
theorem wd_pre (v : Value) (h : Hp) : GoesT (evL (tabH Tryd.prog extY conN hcU) 100 (wdP Tryd.f19) ([v] ++ List.replicate 33 undef, h, []) ⟨[], [], []⟩) 4 30 none [v, undef, nilS, nilS] h [] := ⟨by kernel_rfl, by kernel_rfl, by kernel_rfl⟩
theorem wd_r2 (v : Value) (h : Hp) (g : Nat → Value) : GoesT (evC (tabH Tryd.prog extY conN hcU) 100 false (cFst (wdB Tryd.f19)) ([v, undef, nilS, nilS] ++ tl 30 g, h, []) ⟨[], [], []⟩) 6 28 none [v, undef, nilS, nilS, .int .i64 0, g 1] h [] := ⟨by kernel_rfl, by kernel_rfl, by kernel_rfl⟩
theorem wd_nil2 (o n c : Nat) (i x y : Int) (v5 : Value) (l : List Value) (g : Nat → Value) : GoesT (evC (tabH Tryd.prog extY conN hcU) 100 false (wdL Tryd.f19) ([sl 0 o n c, undef, nilS, nilS, .int .i64 i, v5] ++ tl 28 g, ⟨1, [(l, tR)]⟩, [cmp true, at_, val (.int .u32 x), cmp true, at_, val (.int .u32 y)]) ⟨[], [], []⟩) 6 28 none [sl 0 o n c, undef, nilS, sl 2 0 1 grown, .int .i64 (i2W i), .int .u32 (xyW x y)] ⟨3, [([.int .u32 (xyW x y)], tU), ([.int .u32 (xyW x y)], tU), (l, tR)]⟩ (l2W l o n i x y) := ⟨by kernel_rfl, by kernel_rfl, by kernel_rfl⟩
theorem wd_some2 (o n c z : Nat) (i x y : Int) (v5 : Value) (l lo : List Value) (g : Nat → Value) : GoesT (evC (tabH Tryd.prog extY conN hcU) 100 false (wdL Tryd.f19) ([sl 0 o n c, undef, nilS, sl 1 0 z grown, .int .i64 i, v5] ++ tl 28 g, ⟨2, [(lo, tU), (l, tR)]⟩, [cmp true, at_, val (.int .u32 x), cmp true, at_, val (.int .u32 y)] ++ [at_]) ⟨[], [], []⟩) 6 28 none [sl 0 o n c, undef, nilS, sl 3 0 (z + 1) grown, .int .i64 (i2W i), .int .u32 (xyW x y)] ⟨4, [(lo ++ [.int .u32 (xyW x y)], tU), ([.int .u32 (xyW x y)], tU), ([], 2 * dead), (l, tR)]⟩ ((appChk tU (lo, tU) ([.int .u32 (xyW x y)], tU) z 0 1, true) :: l2W l o n i x y) := ⟨by kernel_rfl, by kernel_rfl, by kernel_rfl⟩
theorem wd_nil1 (o n c : Nat) (i x y : Int) (v5 : Value) (l : List Value) (g : Nat → Value) : GoesT (evC (tabH Tryd.prog extY conN hcU) 100 false (wdL Tryd.f19) ([sl 0 o n c, undef, nilS, nilS, .int .i64 i, v5] ++ tl 28 g, ⟨1, [(l, tR)]⟩, [cmp true, at_, val (.int .u32 x), cmp false]) ⟨[], [], []⟩) 6 28 none [sl 0 o n c, undef, nilS, sl 2 0 1 grown, .int .i64 (i2W i), .int .u32 x] ⟨3, [([.int .u32 x], tU), ([.int .u32 x], tU), (l, tR)]⟩ (l1W l o n i x) := ⟨by kernel_rfl, by kernel_rfl, by kernel_rfl⟩
theorem wd_some1 (o n c z : Nat) (i x y : Int) (v5 : Value) (l lo : List Value) (g : Nat → Value) : GoesT (evC (tabH Tryd.prog extY conN hcU) 100 false (wdL Tryd.f19) ([sl 0 o n c, undef, nilS, sl 1 0 z grown, .int .i64 i, v5] ++ tl 28 g, ⟨2, [(lo, tU), (l, tR)]⟩, [cmp true, at_, val (.int .u32 x), cmp false] ++ [at_]) ⟨[], [], []⟩) 6 28 none [sl 0 o n c, undef, nilS, sl 3 0 (z + 1) grown, .int .i64 (i2W i), .int .u32 x] ⟨4, [(lo ++ [.int .u32 x], tU), ([.int .u32 x], tU), ([], 2 * dead), (l, tR)]⟩ ((appChk tU (lo, tU) ([.int .u32 x], tU) z 0 1, true) :: l1W l o n i x) := ⟨by kernel_rfl, by kernel_rfl, by kernel_rfl⟩
theorem wd_out (o n c : Nat) (i : Int) (v v5 : Value) (h : Hp) (g : Nat → Value) : GoesT (evC (tabH Tryd.prog extY conN hcU) 100 false (wdL Tryd.f19) ([sl 0 o n c, undef, nilS, v, .int .i64 i, v5] ++ tl 28 g, h, [cmp false]) ⟨[], [], []⟩) 6 28 (some (some 0)) [sl 0 o n c, undef, nilS, v, .int .i64 i, v5] h [(decide (i < (n : Int)), false)] := ⟨by kernel_rfl, by kernel_rfl, by kernel_rfl⟩
theorem wd_end (o n c : Nat) (i : Int) (v v5 : Value) (h : Hp) (g : Nat → Value) : GoesT (evC (tabH Tryd.prog extY conN hcU) 100 false (wdE Tryd.f19) ([sl 0 o n c, undef, nilS, v, .int .i64 i, v5] ++ tl 28 g, h, []) ⟨[], [], []⟩) 3 31 (some none) [sl 0 o n c, undef, v] h [] := ⟨by kernel_rfl, by kernel_rfl, by kernel_rfl⟩

/-! ### numbers -/
def canW (L : List Int) : Bool := dgB L && Nat.beq (trimN L) L.length
theorem canW_of {L : List Int} (h : canW L = true) : Canon 65536 L := by
  unfold canW at h
  simp only [Bool.and_eq_true] at h
  exact ⟨dgB_of h.1, Nat.eq_of_beq_eq_true h.2⟩
theorem can_low {A : List Int} (hC : Canon 65536 A) {k : Nat} (hk : A.length = k + 1) : 65536 ^ k ≤ vb 65536 A := by
  rcases Nat.lt_or_ge (vb 65536 A) (65536 ^ k) with h | h
  · have h1 := db_len (b := 65536) (by omega) k (vb 65536 A) h
    rw [db_can (by omega) hC] at h1
    omega
  · exact h
theorem db_own {O : List Int} (hd : ∀ x ∈ O, Dg 4294967296 x) {k : Nat} (hk : O.length = k + 1) (h : 4294967296 ^ k ≤ vb 4294967296 O) : O = db 4294967296 (vb 4294967296 O) := by
  have ht := take_trim (b := 4294967296) (by omega) O hd
  have hl := trim_len (b := 4294967296) (by omega) hd
  have h2 : k + 1 ≤ (db 4294967296 (vb 4294967296 O)).length := by
    rcases Nat.lt_or_ge (db 4294967296 (vb 4294967296 O)).length (k + 1) with hlt | hge
    · have h3 := vb_lt (b := 4294967296) (by omega) (db 4294967296 (vb 4294967296 O)) (db_dg (by omega) _)
      rw [vb_db (by omega)] at h3
      have h4 := Nat.pow_le_pow_right (show 0 < 4294967296 by omega) (show (db 4294967296 (vb 4294967296 O)).length ≤ k by omega)
      omega
    · exact hge
  rw [← ht]
  exact (List.take_of_length_le (by omega)).symm
theorem pow2w (i : Nat) : 65536 ^ (2 * i) = 4294967296 ^ i := by rw [Nat.pow_mul]
theorem drop_two {A : List Int} {i : Nat} (h : i + 1 < A.length) : vb 65536 (A.drop i) = (A.getD i 0).toNat + 65536 * (A.getD (i + 1) 0).toNat + 4294967296 * vb 65536 (A.drop (i + 2)) := by
  rw [List.drop_eq_getElem_cons (show i < A.length by omega), List.drop_eq_getElem_cons h]
  simp only [vb]
  simp [List.getD, List.getElem?_eq_getElem h, List.getElem?_eq_getElem (show i < A.length by omega)]
  rw [show i + 1 + 1 = i + 2 from rfl]
  omega
theorem drop_one {A : List Int} {i : Nat} (h : i + 1 = A.length) : vb 65536 (A.drop i) = (A.getD i 0).toNat := by
  rw [List.drop_eq_getElem_cons (show i < A.length by omega), List.drop_of_length_le (by omega)]
  simp [vb, List.getD, List.getElem?_eq_getElem (show i < A.length by omega)]
section
variable {l : List Value} {o c : Nat} {A : List Int}
def wFr (o n c : Nat) (out : Value) (i : Nat) (v5 : Value) : List Value := [sl 0 o n c, undef, nilS, out, .int .i64 ((i : Nat) : Int), v5]
def wSt (o n c : Nat) (l : List Value) (O : List Int) (i : Nat) (Y : Lf) : Prop :=
  (O.length = 0 ∧ (∃ g v5, Y.1 = wFr o n c nilS i v5 ++ tl 28 g) ∧ Y.2.1 = ⟨1, [(l, tR)]⟩) ∨ (0 < O.length ∧ (∃ g v5, Y.1 = wFr o n c (sl 1 0 O.length grown) i v5 ++ tl 28 g) ∧ Y.2.1 = ⟨2, [(wU O, tU), (l, tR)]⟩)
def wInv (o c : Nat) (l : List Value) (A : List Int) (m : Nat) (Y : Lf) : Prop :=
  ∃ (j i : Nat) (O : List Int), O.length = j ∧ i = 2 * j ∧ i ≤ A.length + 1 ∧ m = A.length + 1 - i ∧ (∀ x ∈ O, Dg 4294967296 x) ∧ vb 4294967296 O + 4294967296 ^ j * vb 65536 (A.drop i) = vb 65536 A ∧ wSt o A.length c l O i Y
def wFin (o c : Nat) (l : List Value) (A : List Int) (Y : Lf) : Prop :=
  ∃ (i : Nat) (O : List Int), 2 * O.length = i ∧ i ≤ A.length + 1 ∧ A.length ≤ i ∧ (∀ x ∈ O, Dg 4294967296 x) ∧ vb 4294967296 O = vb 65536 A ∧ wSt o A.length c l O i Y
theorem wd_round (hR : Row l o A) (hs : ∀ v ∈ l, still v = true) (hA : ∀ x ∈ A, Dg 65536 x) (hn : A.length < 1000000) {O : List Int} {i : Nat} (hOi : 2 * O.length = i) (hi : i < A.length) {Y : Lf} (hY : wSt o A.length c l O i Y) :
    RunsW (tabH Tryd.prog extY conN hcU) (wdL Tryd.f19) Y fun ex z => ex = none ∧ (∃ g v5, z.1 = wFr o A.length c (sl 1 0 (O.length + 1) grown) (i + 2) v5 ++ tl 28 g) ∧ z.2.1 = ⟨2, [(wU (O ++ [(((A.getD i 0).toNat + 65536 * (A.getD (i + 1) 0).toNat : Nat) : Int)]), tU), (l, tR)]⟩ := by
  obtain ⟨t, h', s⟩ := Y
  have d1 := at_dg hA i
  have d2 := at_dg hA (i + 1)
  have e1 : i1W i = ((i + 1 : Nat) : Int) := by unfold i1W; rw [wrapI (by omega) (by omega)]; omega
  have e2 : i2W i = ((i + 2 : Nat) : Int) := by unfold i2W; rw [wrapI (by omega) (by omega)]; omega
  have c1 : cellIs (l[o + (i : Int).toNat * 1]?) (.int .u32 (A.getD i 0)) = true := by rw [Int.toNat_natCast, Nat.mul_one, hR.cell hi]; simp [cellIs]
  have b1 : decide (0 ≤ (i : Int) ∧ (i : Int) < ((A.length : Nat) : Int)) = true := decide_eq_true (by omega)
  have b2 : decide ((i : Int) < ((A.length : Nat) : Int)) = true := decide_eq_true (by omega)
  have keep : ∀ {b : Nat} {h : Hp} {w : Int} {v5 : Value} {O' : List Int} {x0 : Lf}, lt 2 v5 = true → rn (keepK 1 b) v5 = v5 → 1 ≤ b → h.blk? 0 = some (l, tR) → h.blk? b = some (wU O', tU) → (RunsW (tabH Tryd.prog extY conN hcU) (wdL Tryd.f19) x0 fun ex z => ex = none ∧ (∃ g, z.1 = [sl 0 o A.length c, undef, nilS, sl b 0 (O.length + 1) grown, .int .i64 ((i + 2 : Nat) : Int), v5] ++ tl 28 g) ∧ z.2.1 = h) →
      RunsW (tabH Tryd.prog extY conN hcU) (wdL Tryd.f19) x0 fun ex z => ex = none ∧ (∃ g v5, z.1 = wFr o A.length c (sl 1 0 (O.length + 1) grown) (i + 2) v5 ++ tl 28 g) ∧ z.2.1 = ⟨2, [(wU O', tU), (l, tR)]⟩ := fun {b h w v5 O' x0} hv hrn hb h0 h1 r => by
    have hkk : keepK 1 b 0 = 0 := rfl
    have hkb : keepK 1 b 1 = b := rfl
    have := r.kept (k := 1) (b := b) (base := [(l, tR)]) (y := (wU O', tU)) (front' := wFr o A.length c (sl 1 0 (O.length + 1) grown) (i + 2) v5) rfl
      (by simp only [wFr, List.map_cons, List.map_nil, hrn]; simp [rn, rn2, rn1, sl, hkk, hkb, nilS, undef]) (fun t z hz => by
        have ht : t = 0 := by have : t < 1 := Hp.blk_lt hz; omega
        subst ht
        have : z = (l, tR) := (Option.some.inj hz).symm
        subst this
        exact ⟨h0, hs⟩) h1 hb (wU_still _) (fun v hv' => by
        simp only [wFr, List.mem_cons, List.not_mem_nil, or_false] at hv'
        rcases hv' with rfl | rfl | rfl | rfl | rfl | rfl
        · rfl
        · rfl
        · rfl
        · rfl
        · rfl
        · exact hv)
    refine this.mono fun ex z hz => ?_
    obtain ⟨rfl, ⟨g, q1⟩, q2⟩ := hz
    exact ⟨rfl, ⟨g, v5, q1⟩, q2⟩
  by_cases h2 : i + 1 < A.length
  · have c2 : cellIs (l[o + (i1W i).toNat * 1]?) (.int .u32 (A.getD (i + 1) 0)) = true := by rw [e1, Int.toNat_natCast, Nat.mul_one, hR.cell h2]; simp [cellIs]
    have b3 : decide (0 ≤ i1W i ∧ i1W i < ((A.length : Nat) : Int)) = true := decide_eq_true (by rw [e1]; omega)
    have b4 : decide (i1W i < ((A.length : Nat) : Int)) = true := decide_eq_true (by rw [e1]; omega)
    have lg : okLog (l2W l o A.length i (A.getD i 0) (A.getD (i + 1) 0)) := okTwo c2 (okTwo b3 (okTwo b4 (okTwo c1 (okTwo b1 (okOne b2)))))
    have ew : xyW (A.getD i 0) (A.getD (i + 1) 0) = (((A.getD i 0).toNat + 65536 * (A.getD (i + 1) 0).toNat : Nat) : Int) := by
      have := d1.1; have := d1.2; have := d2.1; have := d2.2
      unfold xyW
      rw [wrap32 (n := 65536 * A.getD (i + 1) 0) (by omega) (by omega), wrap32 (by omega) (by omega)]
      omega
    rcases hY with ⟨h0, ⟨g, v5, ht⟩, hh⟩ | ⟨h0, ⟨g, v5, ht⟩, hh⟩
    · simp only at ht hh
      subst ht hh
      have hO' : O = [] := List.length_eq_zero_iff.1 h0
      have r := goesT_runsW (tabH_ok conN_ok hcU_ok) (s0 := s) (wd_nil2 o A.length c i (A.getD i 0) (A.getD (i + 1) 0) v5 l g) lg
      rw [ew, e2] at r
      subst hO'
      exact keep (w := 0) (O' := [] ++ [(((A.getD i 0).toNat + 65536 * (A.getD (i + 1) 0).toNat : Nat) : Int)]) rfl rfl (by omega) rfl rfl r
    · simp only at ht hh
      subst ht hh
      have hchk : appChk tU (wU O, tU) ([.int .u32 (xyW (A.getD i 0) (A.getD (i + 1) 0))], tU) O.length 0 1 = true :=
        appChk_of (L := O) (M := [xyW (A.getD i 0) (A.getD (i + 1) 0)]) rfl (show 0 < 1 by omega) (by show O.length + 1 ≤ _; omega)
      have r := goesT_runsW (tabH_ok conN_ok hcU_ok) (s0 := s) (wd_some2 o A.length c O.length i (A.getD i 0) (A.getD (i + 1) 0) v5 l (wU O) g) (okTwo hchk lg)
      rw [ew, e2] at r
      have ea : wU O ++ [.int .u32 (((A.getD i 0).toNat + 65536 * (A.getD (i + 1) 0).toNat : Nat) : Int)] = wU (O ++ [(((A.getD i 0).toNat + 65536 * (A.getD (i + 1) 0).toNat : Nat) : Int)]) := by rw [wU_append]; rfl
      rw [ea] at r
      exact keep (w := 0) rfl rfl (by omega) rfl rfl r
  · have ez : A.getD (i + 1) 0 = 0 := by simp [List.getD, List.getElem?_eq_none (show A.length ≤ i + 1 by omega)]
    have ew : (((A.getD i 0).toNat + 65536 * (A.getD (i + 1) 0).toNat : Nat) : Int) = A.getD i 0 := by
      have := d1.1
      rw [ez]
      omega
    have b4 : decide (i1W i < ((A.length : Nat) : Int)) = false := decide_eq_false (by rw [e1]; omega)
    have lg : okLog (l1W l o A.length i (A.getD i 0)) := okTwo b4 (okTwo c1 (okTwo b1 (okOne b2)))
    rw [ew]
    rcases hY with ⟨h0, ⟨g, v5, ht⟩, hh⟩ | ⟨h0, ⟨g, v5, ht⟩, hh⟩
    · simp only at ht hh
      subst ht hh
      have hO' : O = [] := List.length_eq_zero_iff.1 h0
      have r := goesT_runsW (tabH_ok conN_ok hcU_ok) (s0 := s) (wd_nil1 o A.length c i (A.getD i 0) 0 v5 l g) lg
      rw [e2] at r
      subst hO'
      exact keep (w := 0) (O' := [] ++ [A.getD i 0]) rfl rfl (by omega) rfl rfl r
    · simp only at ht hh
      subst ht hh
      have hchk : appChk tU (wU O, tU) ([.int .u32 (A.getD i 0)], tU) O.length 0 1 = true :=
        appChk_of (L := O) (M := [A.getD i 0]) rfl (show 0 < 1 by omega) (by show O.length + 1 ≤ _; omega)
      have r := goesT_runsW (tabH_ok conN_ok hcU_ok) (s0 := s) (wd_some1 o A.length c O.length i (A.getD i 0) 0 v5 l (wU O) g) (okTwo hchk lg)
      rw [e2] at r
      have ea : wU O ++ [.int .u32 (A.getD i 0)] = wU (O ++ [A.getD i 0]) := by rw [wU_append]; rfl
      rw [ea] at r
      exact keep (w := 0) rfl rfl (by omega) rfl rfl r
theorem wd_loop (hR : Row l o A) (hs : ∀ v ∈ l, still v = true) (hA : ∀ x ∈ A, Dg 65536 x) (hn : A.length < 1000000) (g : Nat → Value) (v5 : Value) :
    RunsW (tabH Tryd.prog extY conN hcU) (.block 0 (.loop (wdL Tryd.f19))) (wFr o A.length c nilS 0 v5 ++ tl 28 g, ⟨1, [(l, tR)]⟩, []) fun e y => match e with | none => wFin o c l A y | some none => False | some (some _) => False := by
  refine RunsW.forLoop (P := wFin o c l A) (R := fun _ => False) (wInv o c l A) ?_ (n := A.length + 1) ⟨0, 0, [], rfl, rfl, by omega, rfl, (fun x hx => by cases hx), by simp [vb], .inl ⟨rfl, ⟨g, v5, rfl⟩, rfl⟩⟩
  rintro m Y ⟨j, i, O, hO, hi, hle, hm, hd, hv, hY⟩
  by_cases hlt : i < A.length
  · refine (wd_round hR hs hA hn (by omega) hlt hY).mono fun e z hz => ?_
    obtain ⟨rfl, z1, z2⟩ := hz
    have d1 := at_dg hA i
    have d2 := at_dg hA (i + 1)
    have hx : (A.getD i 0).toNat + 65536 * (A.getD (i + 1) 0).toNat < 4294967296 := by have := d1.2; have := d2.2; omega
    refine ⟨A.length + 1 - (i + 2), by omega, j + 1, i + 2, O ++ [(((A.getD i 0).toNat + 65536 * (A.getD (i + 1) 0).toNat : Nat) : Int)], by simp [hO], by omega, by omega, rfl, fun x hx' => ?_, ?_, .inr ⟨by simp, ?_, z2⟩⟩
    · rcases List.mem_append.1 hx' with h1 | h1
      · exact hd x h1
      · rw [List.mem_singleton.1 h1]; exact ⟨Int.natCast_nonneg _, by omega⟩
    · rw [vb_snoc, Int.toNat_natCast, hO, ← hv, Nat.pow_succ, Nat.add_assoc, Nat.mul_assoc, ← Nat.mul_add]
      congr 2
      by_cases h2 : i + 1 < A.length
      · rw [drop_two h2]
      · rw [drop_one (i := i) (by omega), List.drop_of_length_le (show A.length ≤ i + 2 by omega)]
        have ez : A.getD (i + 1) 0 = 0 := by simp [List.getD, List.getElem?_eq_none (show A.length ≤ i + 1 by omega)]
        rw [ez]
        simp [vb]
    · obtain ⟨g', v5', q⟩ := z1
      exact ⟨g', v5', by rw [q]; simp⟩
  · have hdrop : vb 65536 (A.drop i) = 0 := by rw [List.drop_of_length_le (by omega)]; rfl
    rw [hdrop, Nat.mul_zero, Nat.add_zero] at hv
    obtain ⟨t, h', s⟩ := Y
    rcases hY with ⟨h0, ⟨g, v5, ht⟩, hh⟩ | ⟨h0, ⟨g, v5, ht⟩, hh⟩
    · simp only at ht hh
      subst ht hh
      refine (goesT_runsW (tabH_ok conN_ok hcU_ok) (wd_out o A.length c i nilS v5 ⟨1, [(l, tR)]⟩ g) (okOne (decide_eq_false (by omega)))).mono fun e z hz => ?_
      obtain ⟨rfl, ⟨g', z1⟩, z2⟩ := hz
      exact ⟨rfl, i, O, by omega, hle, by omega, hd, hv, .inl ⟨h0, ⟨g', v5, z1⟩, z2⟩⟩
    · simp only at ht hh
      subst ht hh
      refine (goesT_runsW (tabH_ok conN_ok hcU_ok) (wd_out o A.length c i (sl 1 0 O.length grown) v5 ⟨2, [(wU O, tU), (l, tR)]⟩ g) (okOne (decide_eq_false (by omega)))).mono fun e z hz => ?_
      obtain ⟨rfl, ⟨g', z1⟩, z2⟩ := hz
      exact ⟨rfl, i, O, by omega, hle, by omega, hd, hv, .inr ⟨h0, ⟨g', v5, z1⟩, z2⟩⟩
def d32 (V : Nat) : List Int := db 4294967296 V
theorem wd_runs (hR : Row l o A) (hs : ∀ v ∈ l, still v = true) (hC : Canon 65536 A) (hn : A.length < 1000000) (hpos : 0 < A.length) :
    RunsW (tabH Tryd.prog extY conN hcU) (seqs (wdP Tryd.f19) (.seq (.seq (cFst (wdB Tryd.f19)) (.block 0 (.loop (wdL Tryd.f19)))) (wdE Tryd.f19))) ([sl 0 o A.length c] ++ List.replicate 33 undef, ⟨1, [(l, tR)]⟩, []) fun e y => (e = none ∨ e = some none) ∧ resS Tryd.prog Tryd.f19 y.1 y.2.1 = some (sl 1 0 (d32 (vb 65536 A)).length grown) ∧ ∃ r, y.2.1.blk? 1 = some (wU (d32 (vb 65536 A)) ++ r, tU) := by
  refine goesT_listW (tabH_ok conN_ok hcU_ok) (wd_pre _ _) (fun x hx => by cases hx) fun g => ?_
  refine seqW3 (goesT_runsW (tabH_ok conN_ok hcU_ok) (wd_r2 _ _ g) (fun x hx => by cases hx)) (fun e y he => by cases he.1) (P2 := fun e y => match e with | none => wFin o c l A y | some none => False | some (some _) => False) ?_ ?_ ?_
  · rintro ⟨t, h', s⟩ ⟨_, ⟨g', ht⟩, hh⟩
    simp only at ht hh
    subst ht hh
    exact RunsW.script (wd_loop hR hs hC.1 hn g' _)
  · intro e y he
    match e, he with
    | none, he => exact he
    | some id, he => exact he
  · rintro ⟨t, h', s⟩ ⟨i, O, hO, hle, hge, hd, hv, hY⟩
    rcases hY with ⟨h0, _, _⟩ | ⟨h0, ⟨g', v5, ht⟩, hh⟩
    · omega
    · simp only at ht hh
      subst ht hh
      have hlow := can_low hC (k := A.length - 1) (by omega)
      have hOwn : O = d32 (vb 65536 A) := by
        rw [← hv]
        refine db_own hd (k := O.length - 1) (by omega) ?_
        rw [hv, ← pow2w]
        exact Nat.le_trans (Nat.pow_le_pow_right (by omega) (by omega)) hlow
      refine (goesT_runsW (tabH_ok conN_ok hcU_ok) (wd_end o A.length c i (sl 1 0 O.length grown) v5 ⟨2, [(wU O, tU), (l, tR)]⟩ g') (fun x hx => by cases hx)).mono fun e y he => ?_
      obtain ⟨rfl, ⟨g2, e1⟩, e2⟩ := he
      refine ⟨.inr rfl, ?_, ?_⟩
      · rw [e1, e2, ← hOwn]
        rfl
      · rw [e2, ← hOwn]
        exact ⟨[], by rw [List.append_nil]; rfl⟩
end
theorem wd_none (p : Option Addr) (n cc : Nat) (h : Hp) : GoesT (evC (tabH Tryd.prog extY conN hcU) 100 false (cBody Tryd.f19) ([.slice p n cc] ++ List.replicate 33 undef, h, [cmp false]) ⟨[], [], []⟩) 3 31 (some none) [.slice p n cc, undef, nilS] h [(decide ((0 : Int) < (n : Int)), false)] := ⟨by kernel_rfl, by kernel_rfl, by kernel_rfl⟩
theorem wd_body1 : Tryd.f19.body = some (cBody Tryd.f19) := by kernel_rfl
def okWd (h : Hp) (p : Option Addr) (n c : Nat) : Bool := rowP h p n c && canB (rowOf h p n) && Nat.blt n 1000000
def gWd : AnsH := fun vals h s =>
  match vals, s with
  | [.slice p n c], .inr (.inr (.inr (.inl d))) :: s' =>
    match d with
    | true => some (sl h.n 0 (d32 (vO h p n)).length grown, h.push (wU (d32 (vO h p n))) tU, s', [(okWd h p n c, true), (decide (0 < n), true)])
    | false => some (nilS, h, s', [(decide (0 < n), false)])
  | _, _ => none
theorem gWd_ok : AnsHOk 19 gWd := by
  intro vals h s v h' s' lg hg hl m B w E hv
  unfold gWd at hg
  split at hg
  · rename_i p n c d s2
    split at hg
    · cases hg
      have l1 := hl _ (List.mem_cons_self)
      have l2 := hl _ (List.mem_cons_of_mem _ (List.mem_singleton.2 rfl))
      simp only [okWd, Bool.and_eq_true, decide_eq_true_eq] at l1 l2
      obtain ⟨⟨q1, q2⟩, q3⟩ := l1
      have q2 := canB_of q2
      have q3 := blt_iff.1 q3
      rcases rowP_cases q1 with ⟨_, h0, _⟩ | ⟨b, o, x, rfl, hx, r1, rs, e0⟩
      · omega
      · rw [e0] at q2
        obtain ⟨h1, h2, h3, h4, h5, h6, h7⟩ := rowC_of r1
        have ev : vO h (some ⟨b, o, none⟩) n = vb 65536 (cutI x.1 o n) := by unfold vO; rw [e0]
        have r := wd_runs (c := c) h1 rs q2 (by rw [h2]; exact q3) (by rw [h2]; exact l2)
        rw [h2, ← ev] at r
        have := row_calls1 (T := tabH Tryd.prog extY conN hcU) Tryd.func19 wd_body (rows1 h7) (vals := [sl 0 o n c]) (fun v hv => by rw [List.mem_singleton.1 hv]; rfl) (k := 1) (cs := wU (d32 (vO h (some ⟨b, o, none⟩) n))) (ty := tU) (wU_lt _) (by kernel_rfl) r (by rfl) E (s := fun _ => b) (fitsR1 hx h5 h6 rfl)
        exact this
    · cases hg
      have l2 := hl _ (List.mem_singleton.2 rfl)
      simp only [decide_eq_false_iff_not] at l2
      have r := goesT_runs (s0 := []) (tabH_ok conN_ok hcU_ok) (wd_none p n c h) (okOne (decide_eq_false (by omega)))
      have key := hcalls_keep (T := tabH Tryd.prog extY conN hcU) Tryd.func19 wd_body1 (vals := [.slice p n c]) (v := nilS) (h := h) (by rfl) (r.mono fun e y he => by
        obtain ⟨rfl, ⟨g, e1⟩, e2⟩ := he
        exact ⟨.inr rfl, by rw [e1, e2]; rfl, e2⟩)
      exact key m B w E hv
  · cases hg
end Go.Proofs.YtbjgkhbhabdjgaaDoor

/-
  The law's own 'is' and 'words', the document's From, with rows or nothing told by their places alone.
-/
namespace Go.Proofs.YtbjgkhbhabdjgaaDoor
open Go.KRun Go.Nt
set_option maxRecDepth 100000
set_option linter.unusedVariables false

/-! ### is -/
theorem is_body : Tryd.f14.body = some (cBody Tryd.f14) := by kernel_rfl
theorem is_nil (p : Option Addr) (n c : Nat) (h : Hp) : GoesT (evC (tabOf Tryd.prog extY conN true) 100 false (cBody Tryd.f14) ([.slice p n c] ++ List.replicate 19 undef, h, [cmp true]) ⟨[], [], []⟩) 3 17 (some none) [.slice p n c, undef, .bool true] h [((n : Int) == 0, true)] := ⟨by kernel_rfl, by kernel_rfl, by kernel_rfl⟩
theorem is_long (p : Option Addr) (n c : Nat) (h : Hp) : GoesT (evC (tabOf Tryd.prog extY conN true) 100 false (cBody Tryd.f14) ([.slice p n c] ++ List.replicate 19 undef, h, [cmp false, cmp false]) ⟨[], [], []⟩) 3 17 (some none) [.slice p n c, undef, .bool false] h [(decide ((n : Int) ≤ 8192), false), ((n : Int) == 0, false)] := ⟨by kernel_rfl, by kernel_rfl, by kernel_rfl⟩
theorem is_last (d : Bool) (o n c : Nat) (x : Int) (l : List Value) : GoesT (evC (tabOf Tryd.prog extY conN true) 100 false (cBody Tryd.f14) ([sl 0 o n c] ++ List.replicate 19 undef, ⟨1, [(l, tR)]⟩, [cmp false, cmp true, at_, val (.int .u32 x), cmp d]) ⟨[], [], []⟩) 3 17 (some none) [sl 0 o n c, undef, .bool d] ⟨1, [(l, tR)]⟩ [(x != 0, d), (cellIs (l[o + (n1 n).toNat * 1]?) (.int .u32 x), true), (decide (0 ≤ n1 n ∧ n1 n < n), true), (decide ((n : Int) ≤ 8192), true), ((n : Int) == 0, false)] := by
  cases d <;> exact ⟨by kernel_rfl, by kernel_rfl, by kernel_rfl⟩
theorem is_runs {l : List Value} {o c : Nat} {L : List Int} (hR : Row l o L) :
    Runs (tabOf Tryd.prog extY conN true) (cBody Tryd.f14) ([sl 0 o L.length c] ++ List.replicate 19 undef, ⟨1, [(l, tR)]⟩, []) fun e y => (e = none ∨ e = some none) ∧ resS Tryd.prog Tryd.f14 y.1 y.2.1 = some (.bool (!badL L)) := by
  unfold badL
  by_cases h2 : 0 < L.length
  · by_cases h1 : 8192 < L.length
    · rw [decide_eq_true h1, Bool.true_or]
      refine (goesT_runs (tabY_ok conN_ok) (is_long _ _ _ _) (okTwo (decide_eq_false (by omega)) (okOne (beq_eq_false_iff_ne.2 (by omega))))).mono fun e y he => ?_
      obtain ⟨rfl, ⟨g, e2⟩, e3⟩ := he
      refine ⟨.inr rfl, ?_⟩
      rw [e2, e3]
      rfl
    · rw [decide_eq_false h1, Bool.false_or, decide_eq_true h2, Bool.true_and]
      have ek : n1 L.length = ((L.length - 1 : Nat) : Int) := by
        unfold n1
        rw [wrapI (by omega) (by omega)]
        omega
      refine (goesT_runs (tabY_ok conN_ok) (is_last (!(L.getD (L.length - 1) 0 == 0)) o L.length c (L.getD (L.length - 1) 0) l) (okTwo rfl (okTwo (by
        rw [ek, Int.toNat_natCast, Nat.mul_one, hR.cell (by omega)]; simp [cellIs]) (okTwo (by rw [ek]; exact decide_eq_true (by omega)) (okTwo (decide_eq_true (by omega)) (okOne (beq_eq_false_iff_ne.2 (by omega)))))))).mono fun e y he => ?_
      obtain ⟨rfl, ⟨g, e2⟩, e3⟩ := he
      refine ⟨.inr rfl, ?_⟩
      rw [e2, e3]
      rfl
  · have h0 : L.length = 0 := by omega
    rw [decide_eq_false (show ¬ 8192 < L.length by omega), decide_eq_false h2]
    refine (goesT_runs (tabY_ok conN_ok) (is_nil _ _ _ _) (okOne (by simp [h0]))).mono fun e y he => ?_
    obtain ⟨rfl, ⟨g, e2⟩, e3⟩ := he
    refine ⟨.inr rfl, ?_⟩
    rw [e2, e3]
    rfl
def gIsU : AnsH := fun vals h s =>
  match vals, s with
  | [.slice p n c], .inr (.inr (.inr (.inl d))) :: s' => some (.bool d, h, s', [(rowX h p n c, true), (!badL (rowOf h p n), d)])
  | _, _ => none
theorem gIsU_ok : AnsHOk 14 gIsU := by
  intro vals h s v h' s' lg hg hl m B w E hv
  unfold gIsU at hg
  split at hg
  · rename_i p n c d s2
    cases hg
    have l1 := hl _ (List.mem_cons_self)
    have l2 := hl _ (List.mem_cons_of_mem _ (List.mem_singleton.2 rfl))
    simp only at l1 l2
    rcases rowX_cases l1 with ⟨rfl, rfl, rfl, e0⟩ | ⟨b, o, x, rfl, hx, r1, e0⟩
    · rw [e0, badL_nil] at l2
      simp only [Bool.not_false] at l2
      subst l2
      have r := goesT_runs (s0 := []) (tabY_ok conN_ok) (is_nil none 0 0 h) (okOne (by rfl))
      exact hcalls_keep (T := tabOf Tryd.prog extY conN true) Tryd.func14 is_body (vals := [.slice none 0 0]) (v := .bool true) (h := h) (by rfl) (r.mono fun e y he => by
        obtain ⟨rfl, ⟨g, e1⟩, e2⟩ := he
        exact ⟨.inr rfl, by rw [e1, e2]; rfl, e2⟩) m B w E hv
    · rw [e0] at l2
      obtain ⟨h1, h2, h3, h4, h5, h6, h7⟩ := row_of r1
      have r := is_runs (c := c) h1
      rw [h2, l2] at r
      have := row_calls (T := tabOf Tryd.prog extY conN true) Tryd.func14 is_body (rows1 h7) (vals := [sl 0 o n c]) (fun v hv => by rw [List.mem_singleton.1 hv]; rfl) (by rfl) r E (s := fun _ => b) (fun i _ => Hp.blk_lt hx) (fitsR1 hx h5 h6 rfl)
      exact this.mono fun e w' he => ⟨m, he.1, he.2⟩
  · cases hg
/-! ### From -/
theorem fr_none (p : Option Addr) (n c : Nat) (h : Hp) : GoesT (evC (tabH Tryd.prog extY conN hcU) 100 false (cBody Tryd.f16) ([.slice p n c] ++ List.replicate 25 undef, h, [cmp false]) ⟨[], [], []⟩) 3 23 (some none) [.slice p n c, undef, nilS] h [(decide ((0 : Int) < (n : Int)), false)] := ⟨by kernel_rfl, by kernel_rfl, by kernel_rfl⟩
theorem fr_body : Tryd.f16.body = some (cBody Tryd.f16) := by kernel_rfl
def v32O (h : Hp) (p : Option Addr) (n : Nat) : Nat := vb 4294967296 (rowOf h p n)
def gFromU : AnsH := fun vals h s =>
  match vals, s with
  | [.slice p n c], .inr (.inr (.inr (.inl d))) :: s' =>
    match d with
    | true => mk16 (v32O h p n) h s' [(rowX h p n c && Nat.ble n 1000000, true), (decide (0 < n), true)]
    | false => some (nilS, h, s', [(decide (0 < n), false)])
  | _, _ => none
theorem rowC_X {h : Hp} {b o n c : Nat} {x : List Value × TypeId} (hx : h.blk? b = some x) (r : rowOk x.2 x.1 o n c = true) : rowC x.2 x.1 o n c = true ∧ ∀ v ∈ x.1, still v = true := by
  unfold rowOk at r
  simp only [Bool.and_eq_true, Bool.not_eq_true'] at r
  obtain ⟨⟨⟨⟨⟨⟨h1, h2⟩, h3⟩, h4⟩, h5⟩, h6⟩, h7⟩ := r
  have h4' := Nat.le_of_ble_eq_true h4
  have h5' : c < 4611686018427387904 := blt_iff.1 h5
  refine ⟨?_, List.all_eq_true.1 h7⟩
  unfold rowC capOk
  rw [h1, h2, h3, h4, h5, h6, h7, blt_iff.2 (show n < 4611686018427387904 by omega)]
  rfl
theorem gFromU_ok : AnsHOk 16 gFromU := by
  intro vals h s v h' s' lg hg hl m B w E hv
  unfold gFromU at hg
  split at hg
  · rename_i p n c d s2
    split at hg
    · unfold mk16 at hg
      cases hg
      have l1 := hl _ (List.mem_cons_self)
      have l2 := hl _ (List.mem_cons_of_mem _ (List.mem_singleton.2 rfl))
      simp only [Bool.and_eq_true, decide_eq_true_eq] at l1 l2
      obtain ⟨l1, l3⟩ := l1
      have l3 := Nat.le_of_ble_eq_true l3
      rcases rowX_cases l1 with ⟨_, h0, _⟩ | ⟨b, o, x, rfl, hx, r1, e0⟩
      · omega
      · obtain ⟨q1, q2⟩ := rowC_X hx r1
        have ev : v32O h (some ⟨b, o, none⟩) n = v32 x.1 o n := by unfold v32O v32; rw [e0]
        rw [ev]
        exact gFrom_ok _ h [cmp true] _ _ [] [(rowC x.2 x.1 o n c && x.1.all still && Nat.ble (2 * n) 1073741824, true), (decide (0 < n), true)] (by simp only [gFrom, hx]) (okCons (by rw [q1, List.all_eq_true.2 q2, Nat.ble_eq_true_of_le (by omega)]; rfl) (okL1 (decide_eq_true l2))) m B w E hv
    · cases hg
      have l2 := hl _ (List.mem_singleton.2 rfl)
      simp only [decide_eq_false_iff_not] at l2
      have r := goesT_runs (s0 := []) (tabH_ok conN_ok hcU_ok) (fr_none p n c h) (okOne (decide_eq_false (by omega)))
      exact hcalls_keep (T := tabH Tryd.prog extY conN hcU) Tryd.func16 fr_body (vals := [.slice p n c]) (v := nilS) (h := h) (by rfl) (r.mono fun e y he => by
        obtain ⟨rfl, ⟨g, e1⟩, e2⟩ := he
        exact ⟨.inr rfl, by rw [e1, e2]; rfl, e2⟩) m B w E hv
  · cases hg
/-! ### words -/
def gWordsU : AnsH := fun vals h s =>
  match vals, s with
  | [.slice p n c, .slice q n' c'], .inr (.inr (.inr (.inl d))) :: s' => some (.bool d, h, s', [(rowP h p n c, true), (rowP h q n' c', true), (decide (rowOf h p n = rowOf h q n'), d)])
  | _, _ => none
theorem gWordsU_ok : AnsHOk 18 gWordsU := by
  intro vals h s v h' s' lg hg hl m B w E hv
  unfold gWordsU at hg
  split at hg
  · rename_i p n c q n' c' d s2
    cases hg
    obtain ⟨l1, l2, l3⟩ := log3 hl
    simp only at l1 l2 l3
    rcases rowP_cases l1 with ⟨rfl, rfl, rfl, e0⟩ | ⟨b, o, x, rfl, hx, r1, rs, e0⟩ <;> rcases rowP_cases l2 with ⟨rfl, rfl, rfl, f0⟩ | ⟨b', o', y, rfl, hy, t1, ts, f0⟩ <;> simp only [e0, f0] at l3
    · have l3 : true = d := by simpa using l3
      subst l3
      exact gWords_ok _ h [] _ _ [] [] rfl (fun x hx => by cases hx) m B w E hv
    · have hl' := (rowC_of t1).2.1
      refine gWords_ok _ h [cmp d] (.bool d) h [] [(decide (0 = n'), d)] rfl (okL1 ?_) m B w E hv
      rw [← l3]
      refine decide_eq_decide.2 ⟨fun h0 => ?_, fun h0 => ?_⟩
      · exact (List.eq_nil_of_length_eq_zero (by omega)).symm
      · rw [← hl', ← h0]; rfl
    · have hl' := (rowC_of r1).2.1
      refine gWords_ok _ h [cmp d] (.bool d) h [] [(decide (n = 0), d)] rfl (okL1 ?_) m B w E hv
      rw [← l3]
      refine decide_eq_decide.2 ⟨fun h0 => ?_, fun h0 => ?_⟩
      · exact List.eq_nil_of_length_eq_zero (by omega)
      · rw [← hl', h0]; rfl
    · obtain ⟨a1, a2, a3, a4, a5, a6, a7⟩ := rowC_of r1
      obtain ⟨b1, b2, b3, b4, b5, b6, b7⟩ := rowC_of t1
      have r := words_runs (c := c) (c' := c') a1 b1 (by rw [a2]; exact a3)
      rw [a2, b2, l3] at r
      have lx := Hp.blk_lt hx
      have ly := Hp.blk_lt hy
      have := row_calls (T := tabOf Tryd.prog extY conN true) Tryd.func18 words_body (rows2 a7 b7) (vals := [sl 0 o n c, sl 1 o' n' c']) (fun v hv => by
        simp only [List.mem_cons, List.not_mem_nil, or_false] at hv
        rcases hv with rfl | rfl <;> rfl) (by rfl) r E (s := pair b b') (fun i _ => by unfold pair; split <;> assumption) (fitsR2 hx a5 a6 hy b5 b6)
      exact this.mono fun e w' he => ⟨m, he.1, he.2⟩
  · cases hg
end Go.Proofs.YtbjgkhbhabdjgaaDoor

/-
  errors.As at an error that is an api.Errno and a target that is a *api.Errno: true, and the target is set; tillerlaw01.num: the error's number. In worlds where the variable errors.errorType holds what the program's text lays.
-/
namespace Go.Proofs.YtbjgkhbhabdjgaaDoor
open Go.RowKit Go.Extern.Stop Go.Stop Go.Extern

/-! ### what the model's entries for internal/reflectlite answer at these types -/
theorem as_valueOfP (t : Addr) (w : World) : (ReflectliteValue.unpack (.iface 67 (.pointer (some t)))).run Tryd.prog w
    = .ok (.agg #[.pointer (some ⟨4, 67, none⟩), .pointer (some ⟨w.heap.size, 0, none⟩), .int .u64 150]) (w.alloc (.cells #[.pointer (some t)] 67)) := by kernel_rfl
theorem as_typeP (a : Addr) (w : World) : (ReflectliteValue.methodAny (ReflectliteValue.valueError "reflectlite.Value.Type" 0) (fun t _ _ _ => ReflectliteType.toType t) #[.agg #[.pointer (some ⟨4, 67, none⟩), .pointer (some a), .int .u64 150]]).run Tryd.prog w
    = .ok (.iface 112 (.agg #[.pointer (some ⟨4, 67, none⟩)])) w := by kernel_rfl
theorem as_methodKind (h : Value) (w : World) : (Go.method 267 112 (.agg #[h]) "Kind").run Tryd.prog w = .ok (104, h) w := by kernel_rfl
theorem as_kindP (w : World) : ((ReflectliteType.abiMethod fun t => (fun a : Nat => Value.int IntKind.u8 (a : Int)) <$> Rtype.kind t) #[.pointer (some ⟨4, 67, none⟩)]).run Tryd.prog w = .ok (.int .u8 22) w := by kernel_rfl
theorem as_kindE (w : World) : ((ReflectliteType.abiMethod fun t => (fun a : Nat => Value.int IntKind.u8 (a : Int)) <$> Rtype.kind t) #[.pointer (some ⟨4, 64, none⟩)]).run Tryd.prog w = .ok (.int .u8 2) w := by kernel_rfl
theorem as_rlm (z : Sem Value) (f : TypeId → Addr → Nat → Nat → Sem Value) (v : Value) :
    ReflectliteValue.method z f #[v] = (do match ← ReflectliteValue.parts v with | none => z | some (t, a, fl) => f t a fl (fl % 32)) := rfl
theorem as_partsP (a : Addr) (w : World) : (ReflectliteValue.parts (.agg #[.pointer (some ⟨4, 67, none⟩), .pointer (some a), .int .u64 150])).run Tryd.prog w = .ok (some (67, a, 150)) w := by kernel_rfl
theorem as_isNilP (a p : Addr) (W : World) (ha : W.cell? a = some (.pointer (some p))) :
    (ReflectliteValue.method (ReflectliteValue.valueError "reflectlite.Value.IsNil" 0) ReflectliteValue.isNil #[.agg #[.pointer (some ⟨4, 67, none⟩), .pointer (some a), .int .u64 150]]).run Tryd.prog W = .ok (.bool false) W := by
  rw [as_rlm]
  simp only [Sem.run_bind, as_partsP, Result.andThen]
  simp [ReflectliteValue.isNil, loadVar, isAgg, underlying, Tryd.underlying67, ha, Result.andThen]
theorem as_methodElem (h : Value) (w : World) : (Go.method 267 112 (.agg #[h]) "Elem").run Tryd.prog w = .ok (114, .agg #[h]) w := by kernel_rfl
theorem as_methodImplements (h : Value) (w : World) : (Go.method 267 112 (.agg #[h]) "Implements").run Tryd.prog w = .ok (115, .agg #[h]) w := by kernel_rfl
theorem as_methodAssignableTo (h : Value) (w : World) : (Go.method 267 112 (.agg #[h]) "AssignableTo").run Tryd.prog w = .ok (112, .agg #[h]) w := by kernel_rfl
theorem as_elemP (w : World) : (ReflectliteType.method ReflectliteType.elem #[.agg #[.pointer (some ⟨4, 67, none⟩)]]).run Tryd.prog w = .ok (.iface 112 (.agg #[.pointer (some ⟨4, 64, none⟩)])) w := by kernel_rfl
theorem as_implementsE (w : World) : (ReflectliteType.relation "Implements" ReflectliteType.implements_ #[.agg #[.pointer (some ⟨4, 64, none⟩)], .iface 112 (.agg #[.pointer (some ⟨4, 26, none⟩)])]).run Tryd.prog w = .ok (.bool true) w := by kernel_rfl
theorem as_typeOfE (v : Value) (w : World) : (ReflectliteType.typeOf #[.iface 64 v]).run Tryd.prog w = .ok (.iface 112 (.agg #[.pointer (some ⟨4, 64, none⟩)])) w := by kernel_rfl
theorem as_assignableE (w : World) : (ReflectliteType.relation "AssignableTo" ReflectliteType.assignableTo #[.agg #[.pointer (some ⟨4, 64, none⟩)], .iface 112 (.agg #[.pointer (some ⟨4, 64, none⟩)])]).run Tryd.prog w = .ok (.bool true) w := by kernel_rfl
theorem as_valueOfE (n : Int) (w : World) : (ReflectliteValue.unpack (.iface 64 (.int .i64 n))).run Tryd.prog w
    = .ok (.agg #[.pointer (some ⟨4, 64, none⟩), .pointer (some ⟨w.heap.size, 0, none⟩), .int .u64 130]) (w.alloc (.cells #[.int .i64 n] 64)) := by kernel_rfl
theorem as_elemOfP (w : World) : (Rtype.elem? 67).run Tryd.prog w = .ok (some 64) w := by kernel_rfl
theorem as_mkE (p : Addr) (w : World) : (ReflectliteValue.mk 64 p ReflectliteValue.flagAddr).run Tryd.prog w = .ok (.agg #[.pointer (some ⟨4, 64, none⟩), .pointer (some p), .int .u64 386]) w := by kernel_rfl
theorem as_elemVP (a p : Addr) (W : World) (ha : W.cell? a = some (.pointer (some p))) :
    (ReflectliteValue.method (ReflectliteValue.valueError "reflectlite.Value.Elem" 0) ReflectliteValue.elem #[.agg #[.pointer (some ⟨4, 67, none⟩), .pointer (some a), .int .u64 150]]).run Tryd.prog W
      = .ok (.agg #[.pointer (some ⟨4, 64, none⟩), .pointer (some p), .int .u64 386]) W := by
  rw [as_rlm]
  simp only [Sem.run_bind, as_partsP, Result.andThen]
  simp [ReflectliteValue.elem, loadVar, isAgg, underlying, Tryd.underlying67, ha, Result.andThen, as_elemOfP, as_mkE]
theorem as_partsEa (a : Addr) (w : World) : (ReflectliteValue.parts (.agg #[.pointer (some ⟨4, 64, none⟩), .pointer (some a), .int .u64 386])).run Tryd.prog w = .ok (some (64, a, 386)) w := by kernel_rfl
theorem as_partsE (a : Addr) (w : World) : (ReflectliteValue.parts (.agg #[.pointer (some ⟨4, 64, none⟩), .pointer (some a), .int .u64 130])).run Tryd.prog w = .ok (some (64, a, 130)) w := by kernel_rfl
theorem as_directE (w : World) : (Rtype.directlyAssignable 64 64).run Tryd.prog w = .ok true w := by kernel_rfl
theorem as_setE (ta b : Addr) (n : Int) (old : Value) (W : World) (hb : W.cell? b = some (.int .i64 n)) (ht : W.cell? ta = some old) (hf : W.frozen? ta = false) :
    (ReflectliteValue.set #[.agg #[.pointer (some ⟨4, 64, none⟩), .pointer (some ta), .int .u64 386], .agg #[.pointer (some ⟨4, 64, none⟩), .pointer (some b), .int .u64 130]]).run Tryd.prog W
      = .ok (.tuple #[]) (W.setCell ta (.int .i64 n)) := by
  have e : ∀ v x : Value, ReflectliteValue.set #[v, x] = (ReflectliteValue.parts v >>= fun p => ReflectliteValue.parts x >>= fun q => _) := fun _ _ => rfl
  rw [e]
  simp only [Sem.run_bind, as_partsEa, as_partsE, Result.andThen]
  simp [ReflectliteValue.flagAddr, loadVar, isAgg, underlying, Tryd.underlying64, hb, Result.andThen, as_directE, storeVar, Value.cells, storeCells, Addr.add]
  rw [run_store Tryd.prog W ta _ _ (by rfl)]
  simp [ht, hf]

/-- what lies in the variable errors.errorType -/
def errT : Value := .iface 112 (.agg #[.pointer (some ⟨4, 26, none⟩)])
/-- the world behind the call -/
def asW (n : Int) (t : Addr) (w : World) : World := ((((w.alloc (.cells #[.pointer (some t)] 67)).alloc (.cells #[.pointer (some ⟨4, 67, none⟩), .pointer (some ⟨w.heap.size, 0, none⟩), .int .u64 150] 89)).alloc (.cells #[.pointer (some ⟨4, 67, none⟩), .pointer (some ⟨w.heap.size, 0, none⟩), .int .u64 150] 89)).alloc (.cells #[.int .i64 n] 64)).setCell t (.int .i64 n)
set_option maxHeartbeats 4000000 in
theorem as_hit (n : Int) (t : Addr) (old : Value) (w : World) (hg : w.cell? ⟨0, 0, none⟩ = some (.iface 112 (.agg #[.pointer (some ⟨4, 26, none⟩)]))) (ht0 : w.cell? t = some old) (hf0 : w.frozen? t = false) :
    Calls Tryd.prog 42 #[.iface 64 (.int .i64 n), .iface 67 (.pointer (some t))] w fun ev w' => ev = .returned (.bool true) ∧ w' = ((((w.alloc (.cells #[.pointer (some t)] 67)).alloc (.cells #[.pointer (some ⟨4, 67, none⟩), .pointer (some ⟨w.heap.size, 0, none⟩), .int .u64 150] 89)).alloc (.cells #[.pointer (some ⟨4, 67, none⟩), .pointer (some ⟨w.heap.size, 0, none⟩), .int .u64 150] 89)).alloc (.cells #[.int .i64 n] 64)).setCell t (.int .i64 n) := by
  have h6 := @run_callFunc_extern Tryd.prog 61 _ (fun args => ReflectliteValue.unpack (args.getD 0 (.tuple #[]))) Tryd.func61 (by kernel_rfl) (by kernel_rfl) (by kernel_rfl) (by kernel_rfl)
  have h7 := @run_callFunc_extern Tryd.prog 62 _ (ReflectliteValue.methodAny (ReflectliteValue.valueError "reflectlite.Value.Type" 0) (fun t _ _ _ => ReflectliteType.toType t)) Tryd.func62 (by kernel_rfl) (by kernel_rfl) (by kernel_rfl) (by kernel_rfl)
  have h8 := @run_callFunc_extern Tryd.prog 63 _ (ReflectliteValue.method (ReflectliteValue.valueError "reflectlite.Value.IsNil" 0) ReflectliteValue.isNil) Tryd.func63 (by kernel_rfl) (by kernel_rfl) (by kernel_rfl) (by kernel_rfl)
  have h27 := @run_callFunc_extern Tryd.prog 104 _ (ReflectliteType.abiMethod fun t => do pure (.int .u8 (← Rtype.kind t))) Tryd.func104 (by kernel_rfl) (by kernel_rfl) (by kernel_rfl) (by kernel_rfl)
  have h37 := @run_callFunc_extern Tryd.prog 114 _ (ReflectliteType.method ReflectliteType.elem) Tryd.func114 (by kernel_rfl) (by kernel_rfl) (by kernel_rfl) (by kernel_rfl)
  have h38 := @run_callFunc_extern Tryd.prog 115 _ (ReflectliteType.relation "Implements" ReflectliteType.implements_) Tryd.func115 (by kernel_rfl) (by kernel_rfl) (by kernel_rfl) (by kernel_rfl)
  have h10 := @run_callFunc_extern Tryd.prog 75 _ ReflectliteType.typeOf Tryd.func75 (by kernel_rfl) (by kernel_rfl) (by kernel_rfl) (by kernel_rfl)
  have h35 := @run_callFunc_extern Tryd.prog 112 _ (ReflectliteType.relation "AssignableTo" ReflectliteType.assignableTo) Tryd.func112 (by kernel_rfl) (by kernel_rfl) (by kernel_rfl) (by kernel_rfl)
  have h11 := @run_callFunc_extern Tryd.prog 76 _ (ReflectliteValue.method (ReflectliteValue.valueError "reflectlite.Value.Elem" 0) ReflectliteValue.elem) Tryd.func76 (by kernel_rfl) (by kernel_rfl) (by kernel_rfl) (by kernel_rfl)
  have h12 := @run_callFunc_extern Tryd.prog 77 _ ReflectliteValue.set Tryd.func77 (by kernel_rfl) (by kernel_rfl) (by kernel_rfl) (by kernel_rfl)
  have tO := as_typeOfE
  have mA := as_methodAssignableTo
  have aE := as_assignableE
  have vE := as_valueOfE
  have f6 := as_valueOfP
  have f7 := as_typeP
  have mK := as_methodKind
  have mE := as_methodElem
  have mI := as_methodImplements
  have kP := as_kindP
  have kE := as_kindE
  have eP := as_elemP
  have iE := as_implementsE
  have n8 := as_isNilP ⟨w.heap.size, 0, none⟩ t ((w.alloc (.cells #[.pointer (some t)] 67)).alloc (.cells #[.pointer (some ⟨4, 67, none⟩), .pointer (some ⟨w.heap.size, 0, none⟩), .int .u64 150] 89)) (by simp)
  have hlt : 0 < w.heap.size := by
    rcases Nat.eq_zero_or_pos w.heap.size with h0 | h
    · simp [World.cell?, h0] at hg
    · exact h
  have hg2 : ((w.alloc (.cells #[.pointer (some t)] 67)).alloc (.cells #[.pointer (some ⟨4, 67, none⟩), .pointer (some ⟨w.heap.size, 0, none⟩), .int .u64 150] 89)).cell? ⟨0, 0, none⟩ = some (.iface 112 (.agg #[.pointer (some ⟨4, 26, none⟩)])) := by
    rw [World.cell?_alloc_lt _ _ ⟨0, 0, none⟩ (by simp), World.cell?_alloc_lt _ _ ⟨0, 0, none⟩ hlt]; exact hg
  have htl : t.block < w.heap.size := by
    rcases Nat.lt_or_ge t.block w.heap.size with h | h
    · exact h
    · simp [World.cell?, Array.getElem?_eq_none h] at ht0
  have el := as_elemVP ⟨w.heap.size, 0, none⟩ t (((w.alloc (.cells #[.pointer (some t)] 67)).alloc (.cells #[.pointer (some ⟨4, 67, none⟩), .pointer (some ⟨w.heap.size, 0, none⟩), .int .u64 150] 89)).alloc (.cells #[.pointer (some ⟨4, 67, none⟩), .pointer (some ⟨w.heap.size, 0, none⟩), .int .u64 150] 89)) (by rw [World.cell?_alloc_lt _ _ ⟨w.heap.size, 0, none⟩ (by simp; omega)]; simp)
  have st := as_setE t ⟨w.heap.size + 1 + 1 + 1, 0, none⟩ n old ((((w.alloc (.cells #[.pointer (some t)] 67)).alloc (.cells #[.pointer (some ⟨4, 67, none⟩), .pointer (some ⟨w.heap.size, 0, none⟩), .int .u64 150] 89)).alloc (.cells #[.pointer (some ⟨4, 67, none⟩), .pointer (some ⟨w.heap.size, 0, none⟩), .int .u64 150] 89)).alloc (.cells #[.int .i64 n] 64))
    (by rw [World.cell?_alloc_at _ _ _ _ (by simp)]; rfl)
    (by rw [World.cell?_alloc_lt _ _ t (by simp; omega), World.cell?_alloc_lt _ _ t (by simp; omega), World.cell?_alloc_lt _ _ t (by simp; omega), World.cell?_alloc_lt _ _ t htl]; exact ht0)
    (by rw [World.frozen?_alloc_old _ _ t (by simp; omega), World.frozen?_alloc_old _ _ t (by simp; omega), World.frozen?_alloc_old _ _ t (by simp; omega), World.frozen?_alloc_old _ _ t (Nat.ne_of_lt htl)]; exact hf0)
  go_enter Tryd.func42, Tryd.ntmps42
  go_wp2
  refine wp_loop_rounds 1 ?_
  rw [rounds_succ]
  go_wp2
  go_ret
  exact ⟨rfl, rfl⟩
end Go.Proofs.YtbjgkhbhabdjgaaDoor
