/-
  The document's rows of parts of 16 bits (tillerref02): Add: its rounds, and as a call.
-/
import Derived.Test.YtfmfcbnhmkkibaaG11
namespace Go.Proofs.Ytfmfcbnhmkkibaa
open Go.KRun Go.Nt
set_option maxRecDepth 100000

theorem wrap32 {n : Int} (h0 : 0 ≤ n) (h1 : n < 4294967296) : IntKind.u32.wrap n = n := by simp [IntKind.wrap, IntKind.bits, IntKind.signed]; omega
/-- a digit's number -/
def dgN (L : List Int) (i : Nat) : Nat := (L.getD i 0).toNat
theorem dgN_lt {L : List Int} (h : ∀ x ∈ L, Dg 65536 x) (i : Nat) : dgN L i < 65536 ∧ ((dgN L i : Nat) : Int) = L.getD i 0 := by
  have := at_dg h i
  unfold dgN
  omega
theorem dgN_out {L : List Int} {i : Nat} (h : L.length ≤ i) : dgN L i = 0 := by unfold dgN; simp [List.getD, List.getElem?_eq_none h]
theorem sm_eq {A B : List Int} (hA : ∀ x ∈ A, Dg 65536 x) (hB : ∀ x ∈ B, Dg 65536 x) {k : Nat} (hk : k ≤ 1) (i : Nat) : sm A B k i = ((k + dgN A i + dgN B i : Nat) : Int) := by
  have h1 := dgN_lt hA i
  have h2 := dgN_lt hB i
  unfold sm
  rw [atN_nat, atN_nat, ← h1.2, ← h2.2, wrap32 (n := (k : Int) + _) (by omega) (by omega), wrap32 (by omega) (by omega)]
  omega
theorem tmod_nat (a : Nat) : ((a : Int)).tmod 65536 = ((a % 65536 : Nat) : Int) := by rw [Int.tmod_eq_emod_of_nonneg (by omega)]; omega
theorem tdiv_nat {a : Nat} (h : a < 4294967296) : IntKind.u32.wrap ((a : Int).tdiv 65536) = ((a / 65536 : Nat) : Int) := by
  rw [Int.tdiv_eq_ediv_of_nonneg (by omega), wrap32 (by omega) (by omega)]
  omega
theorem okW {p : Bool × Bool} {l : Log} (h : p.1 = p.2) (hl : okLog l) : okLog (p :: l) := okTwo h hl
section
variable {x y : List Value × TypeId} {p q : Option Addr} {n c n' c' : Nat} {A B : List Int}
theorem blk_hp2 {i : Nat} {z : List Value × TypeId} (h : (hp2 y x).blk? i = some z) : (i = 0 ∧ z = x) ∨ (i = 1 ∧ z = y) := blkTwo h
theorem kept_base (NA : Nu 0 x p n c A) (NB : Nu 1 y q n' c' B) {h : Hp} (h0 : h.blk? 0 = some x) (h1 : h.blk? 1 = some y) : ∀ i z, (⟨2, [y, x]⟩ : Hp).blk? i = some z → h.blk? i = some z ∧ ∀ v ∈ z.1, still v = true := fun i z hz => by
  rcases blkTwo hz with ⟨rfl, rfl⟩ | ⟨rfl, rfl⟩
  · exact ⟨h0, NA.st⟩
  · exact ⟨h1, NB.st⟩
/-- the state of Add's loop: i digits are there, k is carried -/
def aSt (x y : List Value × TypeId) (p q : Option Addr) (n c n' c' : Nat) (O : List Int) (i k : Nat) (Y : Lf) : Prop :=
  (i = 0 ∧ k = 0 ∧ (∃ g, Y.1 = [.slice p n c, .slice q n' c', undef, undef, nilS, nilS, .int .u32 (k : Nat), .int .i64 (i : Nat)] ++ tl 34 g) ∧ Y.2.1 = hp2 y x) ∨ (0 < i ∧ (∃ g, Y.1 = [.slice p n c, .slice q n' c', undef, undef, nilS, sl 2 0 i grown, .int .u32 (k : Nat), .int .i64 (i : Nat)] ++ tl 34 g) ∧ Y.2.1 = hu3 (wU O) y x)
def aInv (x y : List Value × TypeId) (p q : Option Addr) (n c n' c' : Nat) (A B : List Int) (m : Nat) (Y : Lf) : Prop :=
  ∃ (i k : Nat) (O : List Int), O.length = i ∧ m = max n n' + 1 - i ∧ i ≤ max n n' + 1 ∧ k ≤ 1 ∧ (i = max n n' + 1 → k = 0) ∧ (∀ x ∈ O, Dg 65536 x) ∧ vb 65536 O + 65536 ^ O.length * k = vb 65536 (A.take i) + vb 65536 (B.take i) ∧ aSt x y p q n c n' c' O i k Y
def aFinV (x y : List Value × TypeId) (p q : Option Addr) (n c n' c' : Nat) (A B : List Int) (Y : Lf) : Prop :=
  ∃ (i : Nat) (O : List Int), O.length = i ∧ i ≤ max n n' + 1 ∧ (∀ x ∈ O, Dg 65536 x) ∧ vb 65536 O = vb 65536 A + vb 65536 B ∧ n ≤ i ∧ n' ≤ i ∧ aSt x y p q n c n' c' O i 0 Y
end
theorem rows_hp2 {x y : List Value × TypeId} {p q : Option Addr} {n c n' c' : Nat} {A B : List Int} (NA : Nu 0 x p n c A) (NB : Nu 1 y q n' c' B) : (hp2 y x).rows := by
  refine ⟨rfl, fun b z hz => ?_⟩
  rcases blkTwo hz with ⟨rfl, rfl⟩ | ⟨rfl, rfl⟩
  · exact ⟨NA.ros.1, NA.lt0, NA.ros.2⟩
  · exact ⟨NB.ros.1, NB.lt0, NB.ros.2⟩
theorem fits_hp2 {x y : List Value × TypeId} {h : Hp} {a b : Nat} (hx : tomb x.2 = false → ∃ z r, h.blk? a = some z ∧ tomb z.2 = false ∧ rt z.2 = rt x.2 ∧ z.1 = x.1 ++ r) (hy : tomb y.2 = false → ∃ z r, h.blk? b = some z ∧ tomb z.2 = false ∧ rt z.2 = rt y.2 ∧ z.1 = y.1 ++ r) : (hp2 y x).fits (pair a b) h := by
  intro i z hz ht
  rcases blkTwo hz with ⟨rfl, rfl⟩ | ⟨rfl, rfl⟩
  · exact hx ht
  · exact hy ht
/-- the two rows of a call, and what is asked of them -/
def two16 (h : Hp) (p q : Option Addr) (n c n' c' : Nat) : Bool := rowP h p n c && rowP h q n' c' && dgB (rowOf h p n) && dgB (rowOf h q n') && Nat.blt (max n n' + 2) 1073741824
theorem two16_of {h : Hp} {p q : Option Addr} {n c n' c' : Nat} (hr : two16 h p q n c n' c' = true) : rowP h p n c = true ∧ rowP h q n' c' = true ∧ (∀ x ∈ rowOf h p n, Dg 65536 x) ∧ (∀ x ∈ rowOf h q n', Dg 65536 x) ∧ max n n' + 2 < 1073741824 := by
  unfold two16 at hr
  simp only [Bool.and_eq_true] at hr
  obtain ⟨⟨⟨⟨h1, h2⟩, h3⟩, h4⟩, h5⟩ := hr
  exact ⟨h1, h2, dgB_of h3, dgB_of h4, blt_iff.1 h5⟩
def vO (h : Hp) (p : Option Addr) (n : Nat) : Nat := vb 65536 (rowOf h p n)
/-- a number that is made: its row in a block of its own -/
theorem d16_dg (A : Nat) : ∀ x ∈ d16 A, Dg 65536 x := db_dg (by omega) A
def mk16 (V : Nat) (h : Hp) (s : List Dec) (lg : Log) : Option (Value × Hp × List Dec × Log) := some (sl h.n 0 (d16 V).length (d16 V).length, h.push (wU (d16 V)) tU, s, lg)
end Go.Proofs.Ytfmfcbnhmkkibaa

/-
  The document's rows of parts of 16 bits (tillerref02): Sub, as a call with rows or nothing, where the second one is not greater.
-/
namespace Go.Proofs.Ytfmfcbnhmkkibaa
open Go.KRun Go.Nt
set_option maxRecDepth 100000

end Go.Proofs.Ytfmfcbnhmkkibaa

/-
  The document's rows of parts of 16 bits (tillerref02): Cmp, as a call with rows or nothing.
-/
namespace Go.Proofs.Ytfmfcbnhmkkibaa
open Go.KRun Go.Nt
set_option maxRecDepth 100000

def cmpZ (a b : Nat) : Int := if a < b then -1 else if a = b then 0 else 1
theorem vb_split (b : Nat) (L : List Int) (k : Nat) : vb b L = vb b (L.take k) + b ^ k * vb b (L.drop k) := by
  by_cases h : k ≤ L.length
  · have e : (L.take k).length = k := by rw [List.length_take]; omega
    have := vb_append b (L.take k) (L.drop k)
    rw [List.take_append_drop, e] at this
    exact this
  · rw [List.take_of_length_le (by omega), List.drop_eq_nil_of_le (by omega)]
    simp [vb]
theorem vb_drop {L : List Int} (k : Nat) : vb 65536 (L.drop k) = dgN L k + 65536 * vb 65536 (L.drop (k + 1)) := by
  by_cases h : k < L.length
  · rw [List.drop_eq_getElem_cons h]
    simp only [vb, dgN]
    rw [getD_get h]
  · rw [List.drop_eq_nil_of_le (by omega), List.drop_eq_nil_of_le (by omega), dgN_out (by omega)]
    rfl
theorem take_lt {L : List Int} (h : ∀ x ∈ L, Dg 65536 x) (k : Nat) : vb 65536 (L.take k) < 65536 ^ k := by
  have h1 := vb_lt (b := 65536) (by omega) (L.take k) (fun x hx => h x (List.mem_of_mem_take hx))
  have h2 : (L.take k).length ≤ k := by rw [List.length_take]; omega
  exact Nat.lt_of_lt_of_le h1 (Nat.pow_le_pow_right (by omega) h2)
theorem less_of {A B : List Int} (hA : ∀ x ∈ A, Dg 65536 x) {k : Nat} (he : vb 65536 (A.drop (k + 1)) = vb 65536 (B.drop (k + 1))) (hd : dgN A k < dgN B k) : vb 65536 A < vb 65536 B := by
  have a1 := vb_split 65536 A k
  have b1 := vb_split 65536 B k
  have a2 := take_lt hA k
  rw [vb_drop, he] at a1
  rw [vb_drop] at b1
  generalize vb 65536 (B.drop (k + 1)) = D at *
  generalize 65536 ^ k = P at *
  have h1 : P * (dgN A k + 65536 * D + 1) ≤ P * (dgN B k + 65536 * D) := Nat.mul_le_mul_left _ (by omega)
  rw [Nat.mul_add P _ 1, Nat.mul_one] at h1
  omega
def kPre (F : Func) : List Code := [cFst (cBody F)]
def kR1 (F : Func) : Code := cFst (cFst (cSnd (cBody F)))
def kLoop (F : Func) : Code := cIn (cIn (cSnd (cFst (cSnd (cBody F)))))
def kEnd (F : Func) : Code := cSnd (cSnd (cBody F))
theorem ucmp_body : Try.f43.body = some (seqs (kPre Try.f43) (.seq (.seq (kR1 Try.f43) (.block 0 (.loop (kLoop Try.f43)))) (kEnd Try.f43))) := by kernel_rfl
def mxI (n n' : Nat) : Int := IntKind.i64.wrap ((if (n' : Int) > n then (n' : Int) else n) - 1)
theorem ucmp_pre (a b : Value) (h : Hp) : GoesT (evL (tabH Try.prog extY conN hcV) 100 (kPre Try.f43) ([a, b] ++ List.replicate 28 undef, h, []) ⟨[], [], []⟩) 5 25 none [a, b, undef, undef, .int .i64 0] h [] := ⟨by kernel_rfl, by kernel_rfl, by kernel_rfl⟩
theorem ucmp_r1 (p q : Option Addr) (n c n' c' : Nat) (h : Hp) (g : Nat → Value) : GoesT (evC (tabH Try.prog extY conN hcV) 100 false (kR1 Try.f43) ([.slice p n c, .slice q n' c', undef, undef, .int .i64 0] ++ tl 25 g, h, []) ⟨[], [], []⟩) 6 24 none [.slice p n c, .slice q n' c', undef, undef, .int .i64 0, .int .i64 (mxI n n')] h [] := ⟨by kernel_rfl, by kernel_rfl, by kernel_rfl⟩
theorem ucmp_lt (p q : Option Addr) (n c n' c' : Nat) (i : Int) (x y : List Value × TypeId) (g : Nat → Value) : GoesT (evC (tabH Try.prog extY conN hcV) 100 false (kLoop Try.f43) ([.slice p n c, .slice q n' c', undef, undef, .int .i64 0, .int .i64 i] ++ tl 24 g, hp2 y x, [cmp true, cmp true]) ⟨[], [], []⟩) 6 24 (some none) [.slice p n c, .slice q n' c', undef, undef, .int .i64 (-1), .int .i64 i] (hp2 y x) [(decide (atN (rowOf (hp2 y x) p n) i < atN (rowOf (hp2 y x) q n') i), true), rP (hp2 y x) q n' c', rP (hp2 y x) p n c, (decide (i ≥ 0), true)] := ⟨by kernel_rfl, by kernel_rfl, by kernel_rfl⟩
theorem ucmp_gt (p q : Option Addr) (n c n' c' : Nat) (i : Int) (x y : List Value × TypeId) (g : Nat → Value) : GoesT (evC (tabH Try.prog extY conN hcV) 100 false (kLoop Try.f43) ([.slice p n c, .slice q n' c', undef, undef, .int .i64 0, .int .i64 i] ++ tl 24 g, hp2 y x, [cmp true, cmp false, cmp true]) ⟨[], [], []⟩) 6 24 (some none) [.slice p n c, .slice q n' c', undef, undef, .int .i64 1, .int .i64 i] (hp2 y x) [(decide (atN (rowOf (hp2 y x) p n) i > atN (rowOf (hp2 y x) q n') i), true), rP (hp2 y x) q n' c', rP (hp2 y x) p n c, (decide (atN (rowOf (hp2 y x) p n) i < atN (rowOf (hp2 y x) q n') i), false), rP (hp2 y x) q n' c', rP (hp2 y x) p n c, (decide (i ≥ 0), true)] := ⟨by kernel_rfl, by kernel_rfl, by kernel_rfl⟩
theorem ucmp_eq (p q : Option Addr) (n c n' c' : Nat) (i : Int) (x y : List Value × TypeId) (g : Nat → Value) : GoesT (evC (tabH Try.prog extY conN hcV) 100 false (kLoop Try.f43) ([.slice p n c, .slice q n' c', undef, undef, .int .i64 0, .int .i64 i] ++ tl 24 g, hp2 y x, [cmp true, cmp false, cmp false]) ⟨[], [], []⟩) 6 24 none [.slice p n c, .slice q n' c', undef, undef, .int .i64 0, .int .i64 (i1 i)] (hp2 y x) [(decide (atN (rowOf (hp2 y x) p n) i > atN (rowOf (hp2 y x) q n') i), false), rP (hp2 y x) q n' c', rP (hp2 y x) p n c, (decide (atN (rowOf (hp2 y x) p n) i < atN (rowOf (hp2 y x) q n') i), false), rP (hp2 y x) q n' c', rP (hp2 y x) p n c, (decide (i ≥ 0), true)] := ⟨by kernel_rfl, by kernel_rfl, by kernel_rfl⟩
theorem ucmp_out (a b : Value) (i : Int) (h : Hp) (g : Nat → Value) : GoesT (evC (tabH Try.prog extY conN hcV) 100 false (kLoop Try.f43) ([a, b, undef, undef, .int .i64 0, .int .i64 i] ++ tl 24 g, h, [cmp false]) ⟨[], [], []⟩) 6 24 (some (some 0)) [a, b, undef, undef, .int .i64 0, .int .i64 i] h [(decide (i ≥ 0), false)] := ⟨by kernel_rfl, by kernel_rfl, by kernel_rfl⟩
theorem ucmp_end (a b : Value) (i : Int) (h : Hp) (g : Nat → Value) : GoesT (evC (tabH Try.prog extY conN hcV) 100 false (kEnd Try.f43) ([a, b, undef, undef, .int .i64 0, .int .i64 i] ++ tl 24 g, h, []) ⟨[], [], []⟩) 5 25 (some none) [a, b, undef, undef, .int .i64 0] h [] := ⟨by kernel_rfl, by kernel_rfl, by kernel_rfl⟩
section
variable {x y : List Value × TypeId} {p q : Option Addr} {n c n' c' : Nat} {A B : List Int}
def kRet (p q : Option Addr) (n c n' c' : Nat) (A B : List Int) (Y : Lf) : Prop := ∃ i g, Y.1 = [.slice p n c, .slice q n' c', undef, undef, .int .i64 (cmpZ (vb 65536 A) (vb 65536 B)), .int .i64 i] ++ tl 24 g
theorem ucmp_loop (NA : Nu 0 x p n c A) (NB : Nu 1 y q n' c' B) (lA : A.length = n) (lB : B.length = n') (hA : ∀ x ∈ A, Dg 65536 x) (hB : ∀ x ∈ B, Dg 65536 x) (hn : max n n' + 2 < 1073741824) (g : Nat → Value) :
    Runs (tabH Try.prog extY conN hcV) (.block 0 (.loop (kLoop Try.f43))) ([.slice p n c, .slice q n' c', undef, undef, .int .i64 0, .int .i64 (mxI n n')] ++ tl 24 g, hp2 y x, []) fun e Y => match e with | none => cmpZ (vb 65536 A) (vb 65536 B) = 0 ∧ ∃ i g, Y.1 = [.slice p n c, .slice q n' c', undef, undef, .int .i64 0, .int .i64 i] ++ tl 24 g | some none => kRet p q n c n' c' A B Y | some (some _) => False := by
  have em : mxI n n' = ((max n n' : Nat) : Int) - 1 := by
    unfold mxI
    split
    · rw [wrapI (by omega) (by omega)]; omega
    · rw [wrapI (by omega) (by omega)]; omega
  refine Runs.forLoop (P := fun Y => cmpZ (vb 65536 A) (vb 65536 B) = 0 ∧ ∃ i g, Y.1 = [.slice p n c, .slice q n' c', undef, undef, .int .i64 0, .int .i64 i] ++ tl 24 g) (R := kRet p q n c n' c' A B)
    (fun k Y => k ≤ max n n' ∧ vb 65536 (A.drop k) = vb 65536 (B.drop k) ∧ (∃ g, Y.1 = [.slice p n c, .slice q n' c', undef, undef, .int .i64 0, .int .i64 ((k : Nat) - 1 : Int)] ++ tl 24 g) ∧ Y.2.1 = hp2 y x) ?_ (n := max n n') ⟨Nat.le_refl _, by rw [List.drop_eq_nil_of_le (by omega), List.drop_eq_nil_of_le (by omega)], ⟨g, by rw [em]⟩, rfl⟩
  rintro k ⟨t, h', s⟩ ⟨hk, he, ⟨g, ht⟩, hh⟩
  simp only at ht hh
  subst ht hh
  cases k with
  | zero =>
    refine (goesT_runs (tabH_ok conN_ok hcV_ok) (ucmp_out _ _ _ _ g) (okOne (decide_eq_false (by omega)))).mono fun e z hz => ?_
    obtain ⟨rfl, ⟨g', z1⟩, z2⟩ := hz
    refine ⟨rfl, ?_, _, g', z1⟩
    simp only [List.drop_zero] at he
    unfold cmpZ
    rw [he]
    simp
  | succ k =>
    have ek : ((k + 1 : Nat) : Int) - 1 = (k : Int) := by omega
    rw [ek]
    have r0 := NA.row (hp2 y x) rfl
    have r1 := NB.row (hp2 y x) rfl
    have d1 := dgN_lt hA k
    have d2 := dgN_lt hB k
    have hg : decide ((k : Int) ≥ 0) = true := decide_eq_true (by omega)
    by_cases h1 : dgN A k < dgN B k
    · have hlt := less_of hA he h1
      refine (goesT_runs (tabH_ok conN_ok hcV_ok) (ucmp_lt p q n c n' c' k x y g) (by
        rw [r0.2, r1.2, atN_nat, atN_nat, ← d1.2, ← d2.2]
        exact okW (decide_eq_true (by omega)) (okW r1.1 (okW r0.1 (okOne hg))))).mono fun e z hz => ?_
      obtain ⟨rfl, ⟨g', z1⟩, z2⟩ := hz
      refine ⟨k, g', ?_⟩
      rw [z1]
      unfold cmpZ
      rw [if_pos hlt]
    · by_cases h2 : dgN B k < dgN A k
      · have hlt := less_of hB he.symm h2
        refine (goesT_runs (tabH_ok conN_ok hcV_ok) (ucmp_gt p q n c n' c' k x y g) (by
          rw [r0.2, r1.2, atN_nat, atN_nat, ← d1.2, ← d2.2]
          exact okW (decide_eq_true (by omega)) (okW r1.1 (okW r0.1 (okW (decide_eq_false (by omega)) (okW r1.1 (okW r0.1 (okOne hg)))))))).mono fun e z hz => ?_
        obtain ⟨rfl, ⟨g', z1⟩, z2⟩ := hz
        refine ⟨k, g', ?_⟩
        rw [z1]
        unfold cmpZ
        rw [if_neg (by omega), if_neg (by omega)]
      · refine (goesT_runs (tabH_ok conN_ok hcV_ok) (ucmp_eq p q n c n' c' k x y g) (by
          rw [r0.2, r1.2, atN_nat, atN_nat, ← d1.2, ← d2.2]
          exact okW (decide_eq_false (by omega)) (okW r1.1 (okW r0.1 (okW (decide_eq_false (by omega)) (okW r1.1 (okW r0.1 (okOne hg)))))))).mono fun e z hz => ?_
        obtain ⟨rfl, ⟨g', z1⟩, z2⟩ := hz
        have e1 : i1 (k : Int) = (k : Int) - 1 := by unfold i1; rw [wrapI (by omega) (by omega)]
        refine ⟨k, by omega, by omega, ?_, ⟨g', by rw [z1, e1]⟩, z2⟩
        rw [vb_drop, vb_drop (L := B), he]
        omega
theorem ucmp_runs (NA : Nu 0 x p n c A) (NB : Nu 1 y q n' c' B) (lA : A.length = n) (lB : B.length = n') (hA : ∀ x ∈ A, Dg 65536 x) (hB : ∀ x ∈ B, Dg 65536 x) (hn : max n n' + 2 < 1073741824) :
    Runs (tabH Try.prog extY conN hcV) (seqs (kPre Try.f43) (.seq (.seq (kR1 Try.f43) (.block 0 (.loop (kLoop Try.f43)))) (kEnd Try.f43))) ([.slice p n c, .slice q n' c'] ++ List.replicate 28 undef, hp2 y x, []) fun e z => (e = none ∨ e = some none) ∧ resS Try.prog Try.f43 z.1 z.2.1 = some (.int .i64 (cmpZ (vb 65536 A) (vb 65536 B))) := by
  refine goesT_list (tabH_ok conN_ok hcV_ok) (ucmp_pre _ _ _) (fun x hx => by cases hx) fun g => ?_
  refine Runs.seq (P1 := fun e Y => match e with | none => cmpZ (vb 65536 A) (vb 65536 B) = 0 ∧ ∃ i g, Y.1 = [.slice p n c, .slice q n' c', undef, undef, .int .i64 0, .int .i64 i] ++ tl 24 g | some none => kRet p q n c n' c' A B Y | some (some _) => False) (Runs.seq (P1 := fun e Y => e = none ∧ (∃ g, Y.1 = [.slice p n c, .slice q n' c', undef, undef, .int .i64 0, .int .i64 (mxI n n')] ++ tl 24 g) ∧ Y.2.1 = hp2 y x) (goesT_runs (tabH_ok conN_ok hcV_ok) (ucmp_r1 p q n c n' c' _ g) (fun x hx => by cases hx)) ?_ (fun e y he => by cases he.1)) ?_ ?_
  · rintro ⟨t, h', s⟩ ⟨_, ⟨g', ht⟩, hh⟩
    simp only at ht hh
    subst ht hh
    exact Runs.script (ucmp_loop NA NB lA lB hA hB hn g')
  · rintro ⟨t, h', s⟩ ⟨e0, i, g', ht⟩
    simp only at ht
    subst ht
    refine (goesT_runs (tabH_ok conN_ok hcV_ok) (ucmp_end _ _ i h' g') (fun x hx => by cases hx)).mono fun e z hz => ?_
    obtain ⟨rfl, ⟨g2, z1⟩, z2⟩ := hz
    refine ⟨.inr rfl, ?_⟩
    rw [z1, e0]
    rfl
  · intro e Y he
    match e, he with
    | none, ⟨i, g', h1⟩ =>
      refine ⟨.inr rfl, ?_⟩
      rw [h1]
      rfl
end
def gUcmp : AnsH := fun vals h s =>
  match vals with
  | [.slice p n c, .slice q n' c'] => some (.int .i64 (cmpZ (vO h p n) (vO h q n')), h, s, [(two16 h p q n c n' c', true)])
  | _ => none
theorem gUcmp_ok : AnsHOk 43 gUcmp := by
  intro vals h s v h' s' lg hg hl m B w E hv
  unfold gUcmp at hg
  split at hg
  · rename_i p n c q n' c'
    cases hg
    have q1 := hl _ (List.mem_singleton.2 rfl)
    simp only at q1
    obtain ⟨r1, r2, d1, d2, hn⟩ := two16_of q1
    obtain ⟨x, p', a, NA, eA, fA⟩ := nu_of 0 r1
    obtain ⟨y, q', b, NB, eB, fB⟩ := nu_of 1 r2
    have r := ucmp_runs NA NB (rowOf_len r1) (rowOf_len r2) d1 d2 hn
    have := row_calls0 (T := tabH Try.prog extY conN hcV) Try.func43 ucmp_body (rows_hp2 NA NB) (vals := [.slice p' n c, .slice q' n' c']) (fun v hv => by
      simp only [List.mem_cons, List.not_mem_nil, or_false] at hv
      rcases hv with rfl | rfl
      · exact NA.lt (by show 0 < 2; omega)
      · exact NB.lt (by show 1 < 2; omega)) (by rfl) r.w E (s := pair a b) (fits_hp2 fA fB)
    simp only [List.map_cons, List.map_nil] at this
    rw [eA _ rfl, eB _ rfl] at this
    exact this
  · cases hg
end Go.Proofs.Ytfmfcbnhmkkibaa
