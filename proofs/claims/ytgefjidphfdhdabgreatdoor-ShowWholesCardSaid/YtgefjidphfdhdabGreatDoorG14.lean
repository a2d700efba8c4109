/-
  TxB, NumTx, TxC, UuY, TxD, UuZ, TxV, TxE, NumZ
-/
import Derived.Test.YtgefjidphfdhdabGreatDoorG13
namespace Go.Proofs.YtgefjidphfdhdabGreatDoor.Na
open Go.KRun Go.Nt
set_option maxRecDepth 100000
def tBy : TypeId := 5
def ub (x : Int) : Value := .int .u8 x
def wB (L : List Int) : List Value := L.map ub
def rvP (F : Func) : Code := cFst (cBody F)
def rvL (F : Func) : Code := cIn (cIn (cSnd (cBody F)))
theorem rv_body : Tryz.f63.body = some (seqs [rvP Tryz.f63] (.block 0 (.loop (rvL Tryz.f63)))) := by kernel_rfl
def hB2 (S : List Value) (Y : List Value × TypeId) (la : List Value) : Hp := ⟨3, [(S, tBy), Y, (la, tR)]⟩
def rvF (n : Nat) (i j : Int) : List Value := [.slice (some ⟨2, 0, none⟩) n grown, undef, .int .i64 i, .int .i64 j]
def celB (S : List Value) (j x : Int) : Bool × Bool := (cellIs S[0 + j.toNat * 1]? (ub x), true)
def stB (S : List Value) (j : Int) : Bool × Bool := (decide (0 + j.toNat * 1 < S.length), true)
theorem rv_pre (n : Nat) (h : Hp) : GoesT (evL (tabOf Tryz.prog extY conN true) 100 [rvP Tryz.f63] ([.slice (some ⟨2, 0, none⟩) n grown] ++ List.replicate 27 undef, h, []) ⟨[], [], []⟩) 4 24 none (rvF n 0 (IntKind.i64.wrap ((n : Int) - 1))) h [] := ⟨by kernel_rfl, by kernel_rfl, by kernel_rfl⟩
theorem rv_out (n : Nat) (i j : Int) (h : Hp) (g : Nat → Value) : GoesT (evC (tabOf Tryz.prog extY conN true) 100 false (rvL Tryz.f63) (rvF n i j ++ tl 24 g, h, [cmp false]) ⟨[], [], []⟩) 4 24 (some (some 0)) (rvF n i j) h [(decide (i < j), false)] := ⟨by kernel_rfl, by kernel_rfl, by kernel_rfl⟩
theorem rv_go (n : Nat) (i j x y : Int) (S : List Value) (Y : List Value × TypeId) (la : List Value) (g : Nat → Value) : GoesT (evC (tabOf Tryz.prog extY conN true) 100 false (rvL Tryz.f63) (rvF n i j ++ tl 24 g, hB2 S Y la, [cmp true, at_, num 8, at_, num 0, at_, num 6, num 1, at_, num 7, num 1, val (ub y), num 10, num 1, at_, num 11, num 1, val (ub x), num 12, num 1, at_, num 13, num 1, at_, num 14, num 1, at_, num 15, num 1, at_]) ⟨[], [], []⟩) 4 24 none (rvF n (IntKind.i64.wrap (i + 1)) (IntKind.i64.wrap (j - 1))) (hB2 ((S.set (0 + i.toNat * 1) (ub y)).set (0 + j.toNat * 1) (ub x)) Y la)
    [stB (S.set (0 + i.toNat * 1) (ub y)) j, inR j n, stB S i, inR i n, celB S j y, celB S i x, stB (S.set (0 + i.toNat * 1) (ub y)) j, inR j n, stB S i, inR i n, celB S i x, celB S j y, inR i n, inR j n, (decide (i < j), true)] := ⟨by kernel_rfl, by kernel_rfl, by kernel_rfl⟩
/-- the first i and the last i have changed places -/
def rvK (D : List Int) (i : Nat) : List Int := (List.range D.length).map fun k => if k < i ∨ D.length - i ≤ k then D.getD (D.length - 1 - k) 0 else D.getD k 0
theorem rvK_len (D : List Int) (i : Nat) : (rvK D i).length = D.length := by simp [rvK]
theorem rvK_at {D : List Int} {i k : Nat} (h : k < D.length) : (rvK D i)[k]? = some (if k < i ∨ D.length - i ≤ k then D.getD (D.length - 1 - k) 0 else D.getD k 0) := by
  simp [rvK, h]
theorem rvK_zero (D : List Int) : rvK D 0 = D := by
  apply List.ext_getElem?
  intro k
  by_cases h : k < D.length
  · rw [rvK_at h, if_neg (by omega)]
    simp [List.getD, h]
  · rw [List.getElem?_eq_none (by rw [rvK_len]; omega), List.getElem?_eq_none (by omega)]
theorem rvK_step {D : List Int} {i j : Nat} (hj : i + j + 1 = D.length) (hij : i < j) : ((rvK D i).set i (D.getD j 0)).set j (D.getD i 0) = rvK D (i + 1) := by
  apply List.ext_getElem?
  intro k
  by_cases h : k < D.length
  · rw [rvK_at h, List.getElem?_set, List.getElem?_set]
    simp only [List.length_set, rvK_len]
    by_cases h1 : j = k
    · rw [if_pos h1, if_pos (by omega), if_pos (by omega), show D.length - 1 - k = i by omega]
    · rw [if_neg h1]
      by_cases h2 : i = k
      · rw [if_pos h2, if_pos (by omega), if_pos (by omega), show D.length - 1 - k = j by omega]
      · rw [if_neg h2, rvK_at h]
        congr 1
        by_cases h3 : k < i ∨ D.length - i ≤ k
        · rw [if_pos h3, if_pos (by omega)]
        · rw [if_neg h3, if_neg (by omega)]
  · rw [List.getElem?_eq_none (by simp [rvK_len]; omega), List.getElem?_eq_none (by rw [rvK_len]; omega)]
theorem rvK_end {D : List Int} {i : Nat} (h : D.length ≤ i + i + 1) : rvK D i = D.reverse := by
  apply List.ext_getElem?
  intro k
  by_cases hk : k < D.length
  · rw [rvK_at hk, List.getElem?_reverse hk]
    have e : ∀ m, m < D.length → D.getD m 0 = D[m]?.getD 0 := fun m _ => by simp [List.getD]
    by_cases h3 : k < i ∨ D.length - i ≤ k
    · rw [if_pos h3]
      have : D.length - 1 - k < D.length := by omega
      simp [List.getD, this]
    · rw [if_neg h3, show D.length - 1 - k = k by omega]
      simp [List.getD, hk]
  · rw [List.getElem?_eq_none (by rw [rvK_len]; omega), List.getElem?_eq_none (by simp; omega)]
theorem wB_len (L : List Int) : (wB L).length = L.length := by simp [wB]
theorem wB_at {L : List Int} {k : Nat} {x : Int} (h : L[k]? = some x) : (wB L)[k]? = some (ub x) := by simp [wB, h]
theorem wB_set (L : List Int) (k : Nat) (x : Int) : (wB L).set k (ub x) = wB (L.set k x) := by simp [wB, List.map_set]
theorem celB_ok {S : List Value} {k : Nat} {x : Int} (h : S[k]? = some (ub x)) : (celB S k x).1 = (celB S k x).2 := by
  unfold celB
  simp only [Int.toNat_natCast, Nat.mul_one, Nat.zero_add, h]
  simp [cellIs, ub]
theorem rv_runs {Y : List Value × TypeId} {la : List Value} (D : List Int) (hN : D.length < 4611686018427387904) :
    Runs (tabOf Tryz.prog extY conN true) (seqs [rvP Tryz.f63] (.block 0 (.loop (rvL Tryz.f63)))) ([.slice (some ⟨2, 0, none⟩) D.length grown] ++ List.replicate 27 undef, hB2 (wB D) Y la, []) fun e y => (e = none ∨ e = some none) ∧ resS Tryz.prog Tryz.f63 y.1 y.2.1 = some (.tuple #[]) ∧ y.2.1.cut 3 = hB2 (wB D.reverse) Y la := by
  have hT := tabY_ok conN_ok
  refine goesT_list hT (rv_pre D.length _) okN9 fun g => ?_
  have ew : IntKind.i64.wrap ((D.length : Int) - 1) = (D.length : Int) - 1 := wrapI (by omega) (by omega)
  rw [ew]
  refine (Runs.forLoop (R := fun _ => False) (P := fun y => ∃ (i j : Int) (g : Nat → Value), y.1 = rvF D.length i j ++ tl 24 g ∧ y.2.1 = hB2 (wB D.reverse) Y la)
    (fun r y => ∃ (i : Nat) (g : Nat → Value), y.1 = rvF D.length i ((D.length : Int) - 1 - i) ++ tl 24 g ∧ y.2.1 = hB2 (wB (rvK D i)) Y la ∧ i ≤ D.length ∧ r = D.length - i)
    ?_ (n := D.length) ⟨0, g, by simp, by rw [rvK_zero], by omega, by omega⟩).mono fun e' y he => ?_
  · rintro r ⟨t, h', s'⟩ ⟨i, g, ht, hh, hi, hr⟩
    simp only at ht hh
    subst ht hh
    by_cases hc : (i : Int) < (D.length : Int) - 1 - i
    · obtain ⟨j, hj⟩ : ∃ j : Nat, i + j + 1 = D.length := ⟨D.length - 1 - i, by omega⟩
      have ej : (D.length : Int) - 1 - i = (j : Nat) := by omega
      rw [ej] at hc ⊢
      have hij : i < j := by omega
      have cx : (rvK D i)[i]? = some (D.getD i 0) := by rw [rvK_at (by omega), if_neg (by omega)]
      have cy : (rvK D i)[j]? = some (D.getD j 0) := by rw [rvK_at (by omega), if_neg (by omega)]
      have l1 : (celB (wB (rvK D i)) i (D.getD i 0)).1 = (celB (wB (rvK D i)) i (D.getD i 0)).2 := celB_ok (wB_at cx)
      have l2 : (celB (wB (rvK D i)) j (D.getD j 0)).1 = (celB (wB (rvK D i)) j (D.getD j 0)).2 := celB_ok (wB_at cy)
      have l3 : (inR i D.length).1 = (inR i D.length).2 := decide_eq_true (by omega)
      have l4 : (inR j D.length).1 = (inR j D.length).2 := decide_eq_true (by omega)
      have l5 : (stB (wB (rvK D i)) i).1 = (stB (wB (rvK D i)) i).2 := decide_eq_true (by rw [wB_len, rvK_len]; omega)
      have l6 : (stB ((wB (rvK D i)).set (0 + (i : Int).toNat * 1) (ub (D.getD j 0))) j).1 = (stB ((wB (rvK D i)).set (0 + (i : Int).toNat * 1) (ub (D.getD j 0))) j).2 := decide_eq_true (by rw [List.length_set, wB_len, rvK_len]; omega)
      refine (goesT_runs hT (rv_go D.length i j (D.getD i 0) (D.getD j 0) (wB (rvK D i)) Y la g) (okCons l6 (okCons l4 (okCons l5 (okCons l3 (okCons l2 (okCons l1 (okCons l6 (okCons l4 (okCons l5 (okCons l3 (okCons l1 (okCons l2 (okCons l3 (okCons l4 (okL1 (decide_eq_true hc))))))))))))))))).mono fun e z he => ?_
      obtain ⟨rfl, ⟨g', z1⟩, z2⟩ := he
      refine ⟨D.length - (i + 1), by omega, i + 1, g', ?_, ?_, by omega, rfl⟩
      · rw [z1, wrapI (by omega) (by omega), wrapI (by omega) (by omega)]
        congr 2
        omega
      · rw [z2, ← rvK_step hj hij, Int.toNat_natCast, Int.toNat_natCast, Nat.mul_one, Nat.mul_one, Nat.zero_add, Nat.zero_add, wB_set, wB_set]
    · refine (goesT_runs hT (rv_out D.length i _ _ g) (okL1 (decide_eq_false hc))).mono fun e z he => ?_
      obtain ⟨rfl, ⟨g', z1⟩, z2⟩ := he
      rw [rvK_end (by omega)] at z2
      exact ⟨rfl, _, _, g', z1, z2⟩
  · match e', he with
    | none, he =>
      obtain ⟨i, j, g, e1, e2⟩ := he
      refine ⟨.inl rfl, ?_, ?_⟩
      · rw [e1]; kernel_rfl
      · rw [e2]; rfl
    | some none, he => exact he.elim
    | some (some _), he => exact he.elim
def isB (S : List Value) : Bool := (bytesL S).isSome
theorem isB_spec {S : List Value} (h : isB S = true) : ∃ D, S = wB D := by
  obtain ⟨D, hD⟩ := Option.isSome_iff_exists.1 h
  exact ⟨D, bytesL_spec _ _ hD⟩
theorem isB_wB : ∀ D, isB (wB D) = true
  | [] => rfl
  | x :: D => by
    have := isB_wB D
    unfold isB at *
    obtain ⟨E, hE⟩ := Option.isSome_iff_exists.1 this
    show (bytesL (ub x :: wB D)).isSome = true
    simp [bytesL, ub, hE]
/-- a row of bytes, the other way round -/
def gRv : AnsH := fun vals h s =>
  match vals, h with
  | [.slice (some ⟨2, 0, none⟩) n c], ⟨3, [(S, t), Y, (la, t')]⟩ => some (.tuple #[], ⟨3, [(S.reverse, tBy), Y, (la, tR)]⟩, s, [(Y.1.all still, true), (Nat.beq t tBy, true), (Nat.beq t' tR, true), (Nat.beq n S.length, true), (isB S, true), (Nat.beq c grown, true), (la.all still, true), (Nat.blt n 4611686018427387904, true)])
  | _, _ => none
theorem wB_tight (L : List Int) (n : Nat) : (wB L).all (lt1 n) = true := by
  unfold wB
  rw [List.all_eq_true]
  intro v hv
  obtain ⟨x, _, rfl⟩ := List.mem_map.1 hv
  rfl
theorem gRv_ok : AnsHOk 63 gRv := by
  intro vals h s v h' s' lg hg hl m B w E hv
  unfold gRv at hg
  split at hg
  · rename_i n c S t Y la t'
    cases hg
    obtain ⟨l0, q⟩ := logB hl
    obtain ⟨l1, q⟩ := logB q
    obtain ⟨l2, q⟩ := logB q
    obtain ⟨l3, q⟩ := logB q
    obtain ⟨l4, q⟩ := logB q
    obtain ⟨l5, q⟩ := logB q
    obtain ⟨l6, q⟩ := logB q
    obtain ⟨l7, _⟩ := logB q
    have l1 := Nat.eq_of_beq_eq_true l1
    have l2 := Nat.eq_of_beq_eq_true l2
    have l3 := Nat.eq_of_beq_eq_true l3
    have l5 := Nat.eq_of_beq_eq_true l5
    obtain ⟨D, rfl⟩ := isB_spec l4
    have l7 := blt_iff.1 l7
    subst l1 l2 l3 l5
    rw [wB_len] at l7 hv ⊢
    have e : (wB D).reverse = wB D.reverse := by simp [wB]
    rw [e]
    exact hcalls_of_runs (T := tabOf Tryz.prog extY conN true) Tryz.func63 rv_body (v := .tuple #[]) (h' := hB2 (wB D.reverse) Y la) (by rfl) (by
      show (((wB D.reverse, tBy) :: [Y, (la, tR)]).all fun x => x.1.all (lt1 3)) = true
      rw [List.all_cons, wB_tight, List.all_cons, all_mono (by omega) l0, List.all_cons, all_mono (by omega) l6]
      rfl) (rv_runs D l7) m B w E hv
  · cases hg
end Go.Proofs.YtgefjidphfdhdabGreatDoor.Na
namespace Go.Nt
theorem getD_at {L : List Int} {i : Nat} (h : i < L.length) : L.getD i 0 = L[i] := by simp [List.getD, h]
/-- the digits, the highest first, without noughts ahead -/
def dropZ (L : List Int) : List Int := L.dropWhile fun x => x == 0
theorem drop_trim (L : List Int) : ∀ x ∈ L.drop (trimN L), x = 0 := by
  intro x hx
  obtain ⟨i, hi, rfl⟩ := List.mem_iff_getElem.1 hx
  rw [List.getElem_drop]
  have h := trimN_high L (trimN L + i) (by omega)
  rw [List.length_drop] at hi
  rw [getD_at (by omega)] at h
  exact h
theorem dropZ_app {A B : List Int} (h : ∀ x ∈ A, x = 0) : dropZ (A ++ B) = dropZ B := by
  unfold dropZ
  rw [List.dropWhile_append_of_pos]
  intro x hx
  rw [h x hx]
  rfl
theorem dropZ_self {L : List Int} (h : L = [] ∨ L.getD 0 0 ≠ 0) : dropZ L = L := by
  cases L with
  | nil => rfl
  | cons x L =>
    rcases h with h | h
    · cases h
    · unfold dropZ
      rw [List.dropWhile_cons_of_neg]
      simpa using h
theorem dropZ_rev {D : List Int} (h : ∀ x ∈ D, Dg 10 x) : dropZ D.reverse = (db 10 (vb 10 D)).reverse := by
  have t := take_trim (b := 10) (by omega) D h
  have e : D.reverse = (D.drop (trimN D)).reverse ++ (D.take (trimN D)).reverse := by
    rw [← List.reverse_append, List.take_append_drop]
  rw [e, dropZ_app (fun x hx => drop_trim D x (List.mem_reverse.1 hx)), t]
  apply dropZ_self
  by_cases h0 : trimN D = 0
  · left
    rw [← t, h0]
    rfl
  · right
    have hl := trimN_le D
    have ht := trimN_top D
    have hlen : (db 10 (vb 10 D)).length = trimN D := by rw [← t, List.length_take]; omega
    rw [← t]
    have hlt : (D.take (trimN D)).reverse.length = trimN D := by rw [List.length_reverse, List.length_take]; omega
    rw [getD_at (by omega), List.getElem_reverse, List.getElem_take]
    rcases ht with ht | ht
    · exact absurd ht h0
    · rw [getD_at (by omega)] at ht
      have e2 : (List.take (trimN D) D).length - 1 - 0 = trimN D - 1 := by rw [List.length_take]; omega
      simp only [e2]
      exact ht
/-- the low k digits, the lowest first -/
def ld : Nat → Nat → List Int
  | 0, _ => []
  | k + 1, p => ((p % 10 : Nat) : Int) :: ld k (p / 10)
theorem ld_len : ∀ k p, (ld k p).length = k
  | 0, _ => rfl
  | k + 1, p => by simp [ld, ld_len k]
theorem ld_dg : ∀ k p, ∀ x ∈ ld k p, Dg 10 x
  | 0, _, x, h => by cases h
  | k + 1, p, x, h => by
    rcases List.mem_cons.1 h with rfl | h
    · exact ⟨by omega, by omega⟩
    · exact ld_dg k _ x h
theorem ld_val : ∀ k p, vb 10 (ld k p) = p % 10 ^ k
  | 0, p => by simp [ld, vb, Nat.mod_one]
  | k + 1, p => by
    rw [show vb 10 (ld (k + 1) p) = ((p % 10 : Nat) : Int).toNat + 10 * vb 10 (ld k (p / 10)) from rfl, ld_val k (p / 10), Nat.pow_succ', Nat.mod_mul]
    omega
theorem ld_snoc : ∀ k p, ld (k + 1) p = ld k p ++ [((p / 10 ^ k % 10 : Nat) : Int)]
  | 0, p => by simp [ld]
  | k + 1, p => by
    rw [show ld (k + 1 + 1) p = ((p % 10 : Nat) : Int) :: ld (k + 1) (p / 10) from rfl, ld_snoc k (p / 10), Nat.div_div_eq_div_mul, ← Nat.pow_succ']
    rfl
/-- one piece more -/
theorem piece_step {D : List Int} {R V k : Nat} (hl : D.length = 9 * k) (h : vb 10 D + 10 ^ (9 * k) * R = V) : vb 10 (D ++ ld 9 (R % 1000000000)) + 10 ^ (9 * (k + 1)) * (R / 1000000000) = V := by
  rw [vb_append, ld_val, hl]
  have e : (10 : Nat) ^ (9 * (k + 1)) = 10 ^ (9 * k) * 1000000000 := by rw [Nat.mul_add, Nat.pow_add]
  have e9 : (10 : Nat) ^ 9 = 1000000000 := rfl
  rw [e, e9, Nat.mod_mod, Nat.mul_assoc, Nat.add_assoc, ← Nat.mul_add]
  have := Nat.mod_add_div R 1000000000
  rw [this]
  exact h
end Go.Nt
namespace Go.Proofs.YtgefjidphfdhdabGreatDoor.Na
open Go.KRun Go.Nt
set_option maxRecDepth 100000
def kP (F : Func) : List Code := [cFst (cBody F), cFst (cSnd (cBody F))]
def kR2 (F : Func) : Code := cFst (cFst (cSnd (cSnd (cBody F))))
def kL (F : Func) : Code := cIn (cIn (cSnd (cFst (cSnd (cSnd (cBody F))))))
def kE (F : Func) : Code := cSnd (cSnd (cSnd (cBody F)))
theorem kp_body : Tryz.f62.body = some (seqs (kP Tryz.f62) (.seq (.seq (kR2 Tryz.f62) (.block 0 (.loop (kL Tryz.f62)))) (kE Tryz.f62))) := by kernel_rfl
/-- the words' block, another one's below it, at most one above it -/
def hX (X : List (List Value × TypeId)) (S la : List Value) : Hp := ⟨2 + X.length, X ++ [(S, tU), (la, tR)]⟩
def kF (n c : Nat) (r i : Int) : List Value := [sl 1 0 n c, undef, uu 0, .int .u64 r, .int .i64 i]
def tpT (r x : Int) : Int := IntKind.u64.wrap ↑(BitVec.ofInt 64 (IntKind.u64.wrap (r * 2 ^ min (Int.toNat 32) 64)) ||| BitVec.ofInt 64 (IntKind.u64.wrap x)).toNat
def tpQ (r x : Int) : Int := IntKind.u32.wrap (IntKind.u64.wrap ((tpT r x).tdiv 1000000000))
def tpR (r x : Int) : Int := (tpT r x).tmod 1000000000
theorem tp_num {r x : Int} (hr : 0 ≤ r ∧ r < 1000000000) (hx : 0 ≤ x ∧ x < 4294967296) : tpQ r x = (r * 4294967296 + x) / 1000000000 ∧ tpR r x = (r * 4294967296 + x) % 1000000000 ∧ 0 ≤ tpQ r x ∧ tpQ r x < 4294967296 := by
  have e0 : (2 : Int) ^ min (Int.toNat 32) 64 = 4294967296 := rfl
  obtain ⟨a, rfl⟩ := Int.eq_ofNat_of_zero_le hr.1
  obtain ⟨u, rfl⟩ := Int.eq_ofNat_of_zero_le hx.1
  have e1 : IntKind.u64.wrap ((a : Int) * 4294967296) = (a : Int) * 4294967296 := by simp [IntKind.wrap, IntKind.bits, IntKind.signed]; omega
  have e2 : IntKind.u64.wrap (u : Int) = u := by simp [IntKind.wrap, IntKind.bits, IntKind.signed]; omega
  have e3 : (BitVec.ofInt 64 ((a : Int) * 4294967296)).toNat = 2 ^ 32 * a := by rw [BitVec.toNat_ofInt]; omega
  have e4 : (BitVec.ofInt 64 (u : Int)).toNat = u := by rw [BitVec.toNat_ofInt]; omega
  have eT : tpT a u = (a : Int) * 4294967296 + u := by
    unfold tpT
    rw [e0, e1, e2, BitVec.toNat_or, e3, e4, ← Nat.two_pow_add_eq_or_of_lt (by omega) a]
    simp [IntKind.wrap, IntKind.bits, IntKind.signed]
    omega
  have q1 : ((a : Int) * 4294967296 + u).tdiv 1000000000 = ((a : Int) * 4294967296 + u) / 1000000000 := Int.tdiv_eq_ediv_of_nonneg (by omega)
  have q2 : tpQ a u = ((a : Int) * 4294967296 + u) / 1000000000 := by
    unfold tpQ
    rw [eT, q1]
    simp [IntKind.wrap, IntKind.bits, IntKind.signed]
    omega
  have q3 : tpR a u = ((a : Int) * 4294967296 + u) % 1000000000 := by
    unfold tpR
    rw [eT, Int.tmod_eq_emod_of_nonneg (by omega)]
  rw [q2, q3]
  exact ⟨rfl, rfl, by omega, by omega⟩
theorem kp_pre (n c : Nat) (h : Hp) : GoesT (evL (tabOf Tryz.prog extY conN true) 100 (kP Tryz.f62) ([sl 1 0 n c] ++ List.replicate 29 undef, h, []) ⟨[], [], []⟩) 4 26 none [sl 1 0 n c, undef, uu 0, .int .u64 0] h [] := ⟨by kernel_rfl, by kernel_rfl, by kernel_rfl⟩
theorem kp_r2 (n c : Nat) (h : Hp) (g : Nat → Value) : GoesT (evC (tabOf Tryz.prog extY conN true) 100 false (kR2 Tryz.f62) ([sl 1 0 n c, undef, uu 0, .int .u64 0] ++ tl 26 g, h, []) ⟨[], [], []⟩) 5 25 none (kF n c 0 (IntKind.i64.wrap ((n : Int) - 1))) h [] := ⟨by kernel_rfl, by kernel_rfl, by kernel_rfl⟩
theorem kp_out (n c : Nat) (r i : Int) (h : Hp) (g : Nat → Value) : GoesT (evC (tabOf Tryz.prog extY conN true) 100 false (kL Tryz.f62) (kF n c r i ++ tl 25 g, h, [cmp false]) ⟨[], [], []⟩) 5 25 (some (some 0)) (kF n c r i) h [(decide (i ≥ 0), false)] := ⟨by kernel_rfl, by kernel_rfl, by kernel_rfl⟩
theorem kp_go0 (n c : Nat) (r i x : Int) (S la : List Value) (g : Nat → Value) : GoesT (evC (tabOf Tryz.prog extY conN true) 100 false (kL Tryz.f62) (kF n c r i ++ tl 25 g, hX [] S la, [cmp true, at_, val (uu x), at_, at_]) ⟨[], [], []⟩) 5 25 none (kF n c (tpR r x) (IntKind.i64.wrap (i - 1))) (hX [] (S.set (0 + i.toNat * 1) (uu (tpQ r x))) la) [(decide (0 + i.toNat * 1 < S.length), true), inR i n, celR S 0 i x, inR i n, (decide ((32 : Int) < 0), false), (decide (i ≥ 0), true)] := ⟨by kernel_rfl, by kernel_rfl, by kernel_rfl⟩
theorem kp_go1 (n c : Nat) (r i x : Int) (X : List Value × TypeId) (S la : List Value) (g : Nat → Value) : GoesT (evC (tabOf Tryz.prog extY conN true) 100 false (kL Tryz.f62) (kF n c r i ++ tl 25 g, hX [X] S la, [cmp true, at_, val (uu x), at_, at_]) ⟨[], [], []⟩) 5 25 none (kF n c (tpR r x) (IntKind.i64.wrap (i - 1))) (hX [X] (S.set (0 + i.toNat * 1) (uu (tpQ r x))) la) [(decide (0 + i.toNat * 1 < S.length), true), inR i n, celR S 0 i x, inR i n, (decide ((32 : Int) < 0), false), (decide (i ≥ 0), true)] := ⟨by kernel_rfl, by kernel_rfl, by kernel_rfl⟩
theorem kp_go (n c : Nat) (r i x : Int) {X : List (List Value × TypeId)} (hX1 : X.length ≤ 1) (S la : List Value) (g : Nat → Value) : GoesT (evC (tabOf Tryz.prog extY conN true) 100 false (kL Tryz.f62) (kF n c r i ++ tl 25 g, hX X S la, [cmp true, at_, val (uu x), at_, at_]) ⟨[], [], []⟩) 5 25 none (kF n c (tpR r x) (IntKind.i64.wrap (i - 1))) (hX X (S.set (0 + i.toNat * 1) (uu (tpQ r x))) la) [(decide (0 + i.toNat * 1 < S.length), true), inR i n, celR S 0 i x, inR i n, (decide ((32 : Int) < 0), false), (decide (i ≥ 0), true)] := by
  match X, hX1 with
  | [], _ => exact kp_go0 n c r i x S la g
  | [y], _ => exact kp_go1 n c r i x y S la g
theorem kp_fin (n c : Nat) (r i : Int) (h : Hp) (g : Nat → Value) : GoesT (evC (tabOf Tryz.prog extY conN true) 100 false (kE Tryz.f62) (kF n c r i ++ tl 25 g, h, []) ⟨[], [], []⟩) 3 27 (some none) [sl 1 0 n c, undef, uu (IntKind.u32.wrap r)] h [] := ⟨by kernel_rfl, by kernel_rfl, by kernel_rfl⟩
theorem kp_runs {c : Nat} {X : List (List Value × TypeId)} (hX1 : X.length ≤ 1) {la Z : List Value} {L : List Int} (hL : wds L) (hN : L.length < 4611686018427387904) :
    Runs (tabOf Tryz.prog extY conN true) (seqs (kP Tryz.f62) (.seq (.seq (kR2 Tryz.f62) (.block 0 (.loop (kL Tryz.f62)))) (kE Tryz.f62))) ([sl 1 0 L.length c] ++ List.replicate 29 undef, hX X (wU L ++ Z) la, []) fun e y => (e = none ∨ e = some none) ∧ resS Tryz.prog Tryz.f62 y.1 y.2.1 = some (uu (vN L % 1000000000)) ∧ y.2.1 = hX X (wU (dg L.length (vN L / 1000000000)) ++ Z) la := by
  have hT := tabY_ok conN_ok
  refine goesT_list hT (kp_pre L.length c _) okN9 fun g => ?_
  refine Runs.seq (P1 := fun e y => e = none ∧ ∃ (i : Int) (g : Nat → Value), y.1 = kF L.length c (vN L % 1000000000) i ++ tl 25 g ∧ y.2.1 = hX X (wU (dg L.length (vN L / 1000000000)) ++ Z) la) ?_ ?_ (fun e y he => by cases he.1)
  · refine Runs.seq (goesT_runs hT (kp_r2 L.length c _ g) okN9) ?_ (fun e y he => by cases he.1)
    rintro ⟨t, hh, s⟩ ⟨_, ⟨g', e1⟩, e2⟩
    have ew : IntKind.i64.wrap ((L.length : Int) - 1) = (L.length : Int) - 1 := wrapI (by omega) (by omega)
    rw [ew] at e1
    refine (Runs.forLoop (R := fun _ => False) (P := fun y => ∃ (i : Int) (g : Nat → Value), y.1 = kF L.length c (vN L % 1000000000) i ++ tl 25 g ∧ y.2.1 = hX X (wU (dg L.length (vN L / 1000000000)) ++ Z) la)
      (fun m y => ∃ (A Q H : List Int) (r : Int) (g : Nat → Value), y.1 = kF L.length c r ((A.length : Int) - 1) ++ tl 25 g ∧ y.2.1 = hX X (wU (A ++ Q) ++ Z) la ∧ L = A ++ H ∧ H.length = Q.length ∧ wds Q ∧ (0 ≤ r ∧ r < 1000000000) ∧ vN H = vN Q * 1000000000 + r ∧ m = A.length)
      ?_ (n := L.length) ⟨L, [], [], 0, g', e1, by rw [List.append_nil]; exact e2, by simp, rfl, (fun x hx => by cases hx), by omega, rfl, rfl⟩).mono fun e z hz => ?_
    · rintro m ⟨t, h', s'⟩ ⟨A, Q, H, r, g, ht, hh, hLA, hHQ, wQ, hr, hv, hm⟩
      simp only at ht hh
      subst ht hh
      rcases List.eq_nil_or_concat A with rfl | ⟨A', x, rfl⟩
      · refine (goesT_runs hT (kp_out L.length c r _ _ g) (okL1 (decide_eq_false (by simp)))).mono fun e z he => ?_
        obtain ⟨rfl, ⟨g', z1⟩, z2⟩ := he
        have eH : L = H := by simpa using hLA
        have hd : vN L / 1000000000 = vN Q ∧ vN L % 1000000000 = r := by rw [eH]; omega
        have e5 : dg L.length (vN Q) = Q := by rw [eH, hHQ]; exact dg_vN Q wQ
        refine ⟨rfl, ((([] : List Int).length : Nat) : Int) - 1, g', ?_, ?_⟩
        · rw [z1, hd.2]
        · rw [z2, hd.1, e5]; rfl
      · rw [List.concat_eq_append] at *
        have hlen : L.length = A'.length + 1 + H.length := by rw [hLA]; simp; omega
        have hx : 0 ≤ x ∧ x < 4294967296 := hL x (by rw [hLA]; simp)
        obtain ⟨n1, n2, n3, n4⟩ := tp_num hr hx
        have ei : (((A' ++ [x]).length : Nat) : Int) - 1 = (A'.length : Nat) := by simp
        have eS : wU (A' ++ [x] ++ Q) ++ Z = wU (A' ++ x :: Q) ++ Z := by simp
        have cS : (wU (A' ++ x :: Q) ++ Z)[0 + A'.length]? = some (uu x) := by
          rw [Nat.zero_add, List.getElem?_append_left (by unfold wU; simp)]
          exact wU_get A' x Q
        have l1 : decide (0 + ((A'.length : Nat) : Int).toNat * 1 < (wU (A' ++ x :: Q) ++ Z).length) = true := decide_eq_true (by unfold wU; simp)
        have l2 : (inR (A'.length : Nat) L.length).1 = (inR (A'.length : Nat) L.length).2 := decide_eq_true (by omega)
        have l3 : (celR (wU (A' ++ x :: Q) ++ Z) 0 (A'.length : Nat) x).1 = (celR (wU (A' ++ x :: Q) ++ Z) 0 (A'.length : Nat) x).2 := cel_ok cS
        rw [ei, eS]
        refine (goesT_runs hT (kp_go L.length c r (A'.length : Nat) x hX1 (wU (A' ++ x :: Q) ++ Z) la g) (okCons l1 (okCons l2 (okCons l3 (okCons l2 (okCons (by decide) (okL1 (decide_eq_true (by omega))))))))).mono fun e z he => ?_
        obtain ⟨rfl, ⟨g', z1⟩, z2⟩ := he
        refine ⟨A'.length, by rw [hm]; simp, A', tpQ r x :: Q, x :: H, tpR r x, g', ?_, ?_, by rw [hLA]; simp, by simp [hHQ], ?_, by rw [n2]; omega, ?_, rfl⟩
        · rw [z1, wrapI (by omega) (by omega)]
        · rw [z2, Int.toNat_natCast, Nat.mul_one, Nat.zero_add, List.set_append_left _ _ (by unfold wU; simp), wU_set]
          simp
        · intro y hy
          rcases List.mem_cons.1 hy with rfl | hy
          · exact ⟨n3, n4⟩
          · exact wQ y hy
        · simp only [vN]
          rw [n1, n2, hv]
          omega
    · match e, hz with
      | none, hz => exact ⟨rfl, hz⟩
  · rintro ⟨t, hh, s⟩ ⟨_, i, g', e1, e2⟩
    simp only at e1 e2
    subst e1 e2
    refine (goesT_runs hT (kp_fin L.length c _ i _ g') okN9).mono fun e z hz => ?_
    obtain ⟨rfl, ⟨g2, z1⟩, z2⟩ := hz
    have hm : IntKind.u32.wrap (vN L % 1000000000) = vN L % 1000000000 := by simp [IntKind.wrap, IntKind.bits, IntKind.signed]; omega
    rw [hm] at z1
    exact ⟨.inr rfl, by rw [z1, z2]; rfl, z2⟩
/-- the piece that is taken off the words in block 1 -/
def tpS (S : List Value) (n : Nat) : List Value := wU (dg n (vN (cutI S 0 n) / 1000000000)) ++ S.drop n
def tpG (X : List (List Value × TypeId)) (S : List Value) (t : TypeId) (la : List Value) (t' : TypeId) (n c : Nat) (s : List Dec) : Option (Value × Hp × List Dec × Log) :=
  some (uu (vN (cutI S 0 n) % 1000000000), ⟨2 + X.length, X ++ [(tpS S n, tU), (la, tR)]⟩, s, [(Nat.beq t tU, true), (Nat.beq t' tR, true), (rowOk t S 0 n c, true), (la.all still, true), (X.all fun x => x.1.all still, true)])
def gTp : AnsH := fun vals h s =>
  match vals, h with
  | [.slice (some ⟨1, 0, none⟩) n c], ⟨2, [(S, t), (la, t')]⟩ => tpG [] S t la t' n c s
  | [.slice (some ⟨1, 0, none⟩) n c], ⟨3, [x, (S, t), (la, t')]⟩ => tpG [x] S t la t' n c s
  | _, _ => none
theorem tpG_ok {X : List (List Value × TypeId)} (hX1 : X.length ≤ 1) {S : List Value} {t : TypeId} {la : List Value} {t' : TypeId} {n c : Nat} {s s' : List Dec} {v : Value} {h' : Hp} {lg : Log} (hg : tpG X S t la t' n c s = some (v, h', s', lg)) (hl : okLog lg) (m : Mp) (B : Nat) (w : World) (E : Emb m B ⟨2 + X.length, X ++ [(S, t), (la, t')]⟩ w) (hv : ∀ v ∈ [sl 1 0 n c], lt (2 + X.length) v = true) :
    Calls Tryz.prog 62 (([sl 1 0 n c] : List Value).map (mv m)).toArray w fun e w' => ∃ m', e = .returned (mv m' v) ∧ Came m B ⟨2 + X.length, X ++ [(S, t), (la, t')]⟩ w v h' m' w' := by
  unfold tpG at hg
  cases hg
  obtain ⟨l1, q⟩ := logB hl
  obtain ⟨l2, q⟩ := logB q
  obtain ⟨l3, q⟩ := logB q
  obtain ⟨l4, q⟩ := logB q
  obtain ⟨l5, _⟩ := logB q
  have l1 := Nat.eq_of_beq_eq_true l1
  have l2 := Nat.eq_of_beq_eq_true l2
  subst l1 l2
  obtain ⟨a1, a2, a3, a4, a5, a6, a7⟩ := row_of l3
  have hc : c < 4611686018427387904 := blt_iff.1 a4
  have eS : S = wU (cutI S 0 n) ++ S.drop n := by
    have h1 := a1.cut
    rw [a2] at h1
    rw [← h1]
    unfold cutV
    simp
  have r := kp_runs (c := c) hX1 (la := la) (Z := S.drop n) a1.rng (by omega)
  rw [a2, ← eS] at r
  have ht : (Hp.tight ⟨2 + X.length, X ++ [(tpS S n, tU), (la, tR)]⟩) = true := by
    unfold Hp.tight tpS
    simp only [List.all_append, List.all_cons, List.all_nil, Bool.and_true, Bool.and_eq_true]
    refine ⟨?_, ⟨wU_tight _ _, ?_⟩, all_mono (by omega) l4⟩
    · rw [List.all_eq_true]
      intro x hx
      exact all_mono (by omega) (List.all_eq_true.1 l5 x hx)
    · rw [List.all_eq_true]
      exact fun v hv => still_lt (by omega) (a7 v (List.mem_of_mem_drop hv))
  refine hcalls_of_runs (T := tabOf Tryz.prog extY conN true) Tryz.func62 kp_body (vals := [sl 1 0 n c]) (h := hX X S la) (by rfl) ht (r.mono fun e y he => ⟨he.1, he.2.1, ?_⟩) m B w E hv
  rw [he.2.2]
  unfold hX Hp.cut
  simp [tpS, tU]
theorem gTp_ok : AnsHOk 62 gTp := by
  intro vals h s v h' s' lg hg hl m B w E hv
  unfold gTp at hg
  split at hg
  · exact tpG_ok (X := []) (by simp) hg hl m B w E hv
  · exact tpG_ok (X := [_]) (by simp) hg hl m B w E hv
  · cases hg
end Go.Proofs.YtgefjidphfdhdabGreatDoor.Na
namespace Go.Proofs.YtgefjidphfdhdabGreatDoor
open Go.KRun
set_option maxRecDepth 100000
def h1R (l : List Value) : Hp := ⟨1, [(l, tR)]⟩
end Go.Proofs.YtgefjidphfdhdabGreatDoor
namespace Go.Proofs.YtgefjidphfdhdabGreatDoor.Na
open Go.KRun Go.Nt
set_option maxRecDepth 100000
def dC (F : Func) : Nat → Code
  | 0 => cBody F
  | n + 1 => cSnd (dC F n)
def dP (F : Func) : List Code := [cFst (dC F 0), cFst (dC F 1), cFst (dC F 2), cFst (dC F 3), cFst (dC F 4), cFst (dC F 5)]
def dL (F : Func) : Code := cIn (cIn (cFst (dC F 6)))
def dE (F : Func) : Code := dC F 7
theorem dc_body : Tryz.f32.body = some (seqs (dP Tryz.f32) (.seq (.block 0 (.loop (dL Tryz.f32))) (dE Tryz.f32))) := by kernel_rfl
def conDc : Con := alt 64 gTrl conN
theorem conDc_ok : ConOk conDc := alt_ok Tryz.func64 rfl gTrl_ok conN_ok
def hcDc : Hc := altH 57 gChkU (altH 62 gTp (altH 60 gTrim (altH 63 gRv hcN)))
theorem hcDc_ok : HcOk hcDc := altH_ok Tryz.func57 rfl gChkU_ok (altH_ok Tryz.func62 rfl gTp_ok (altH_ok Tryz.func60 rfl gTrim_ok (altH_ok Tryz.func63 rfl gRv_ok hcN_ok)))
theorem tabDc : TabOk (tabH Tryz.prog extY conDc hcDc) := tabH_ok conDc_ok hcDc_ok
def cpD (l : List Value) (o n : Nat) : List Value := List.take (n.min n) (List.drop o l) ++ List.drop (0 + n.min n) (List.replicate n (Value.int .u32 0))
def cpC (l : List Value) (o n : Nat) : Bool := !(tomb tR) && !(ro tU) && (o + n.min n).ble l.length && (0 + n.min n).ble (List.replicate n (Value.int .u32 0)).length && (List.take (n.min n) (List.drop o l)).all one
def dF (a rest dig p : Value) : List Value := [a, undef, bS [], .nilIface, .nilIface, rest, dig, p]
theorem dc_pre (o n c : Nat) (l : List Value) : GoesT (evL (tabH Tryz.prog extY conDc hcDc) 100 (dP Tryz.f32) ([sl 0 o n c] ++ List.replicate 45 undef, h1R l, [cmp false, cmp false, at_, at_]) ⟨[], [], []⟩) 8 38 none (dF (sl 0 o n c) (sl 1 0 n n) nilS undef) (hX [] (cpD l o n) l) [(cpC l o n, true), (okMakeB 4 n n, true), ((n : Int) == 0, false), (rowX (h1R l) (some ⟨0, o, none⟩) n c, true), (badL (rowOf (h1R l) (some ⟨0, o, none⟩) n), false)] := ⟨by kernel_rfl, by kernel_rfl, by kernel_rfl⟩
theorem dc_bad (p : Option Addr) (n c : Nat) (h : Hp) : GoesT (evC (tabH Tryz.prog extY conDc hcDc) 100 false (cBody Tryz.f32) ([.slice p n c] ++ List.replicate 45 undef, h, [cmp true]) ⟨[], [], []⟩) 4 42 (some none) [.slice p n c, undef, bS [], errV 1] h [(rowX h p n c, true), (badL (rowOf h p n), true)] := ⟨by kernel_rfl, by kernel_rfl, by kernel_rfl⟩
theorem dc_zero (p : Option Addr) (n c : Nat) (h : Hp) : GoesT (evC (tabH Tryz.prog extY conDc hcDc) 100 false (cBody Tryz.f32) ([.slice p n c] ++ List.replicate 45 undef, h, [cmp false, cmp true]) ⟨[], [], []⟩) 4 42 (some none) [.slice p n c, undef, bS [48], .nilIface] h [((n : Int) == 0, true), (rowX h p n c, true), (badL (rowOf h p n), false)] := ⟨by kernel_rfl, by kernel_rfl, by kernel_rfl⟩
def pNx (p : Int) : Nat → Int
  | 0 => p
  | j + 1 => IntKind.u32.wrap ((pNx p j).tdiv 10)
def dgV (p : Int) : Value := ub (IntKind.u8.wrap (IntKind.u32.wrap (48 + p.tmod 10)))
def apB (S : List Value) (p : Int) : Nat → List Value
  | 0 => S
  | j + 1 => apB S p j ++ [dgV (pNx p j)]
def tpP (S : List Value) (n : Nat) : Int := vN (cutI S 0 n) % 1000000000
def apL (S : List Value) (p : Int) (n j : Nat) : Bool × Bool := (appChk tBy (apB S p j, tBy) ([dgV (pNx p j)], tBy) n 0 1, true)
def trS (S : List Value) (n : Nat) : Nat := trimN (cutI (tpS S n) 0 n)
theorem dc_go0 (n c : Nat) (a w : Value) (S la : List Value) (g : Nat → Value) : GoesT (evC (tabH Tryz.prog extY conDc hcDc) 100 false (dL Tryz.f32) (dF a (sl 1 0 n c) nilS w ++ tl 38 g, hX [] S la, [cmp true, cmp true, cmp false, cmp true, at_, cmp true, at_, cmp true, at_, cmp true, at_, cmp true, at_, cmp true, at_, cmp true, at_, cmp true, at_, cmp false]) ⟨[], [], []⟩) 8 38 none (dF a (sl 1 0 (trS S n) c) (.slice (some ⟨19, 0, none⟩) 9 grown) (uu (pNx (tpP S n) 9))) ⟨20, [(apB [] (tpP S n) 9, tBy), ([dgV (pNx (tpP S n) 8)], tBy), ([], 2 * dead), ([dgV (pNx (tpP S n) 7)], tBy), ([], 2 * dead), ([dgV (pNx (tpP S n) 6)], tBy), ([], 2 * dead), ([dgV (pNx (tpP S n) 5)], tBy), ([], 2 * dead), ([dgV (pNx (tpP S n) 4)], tBy), ([], 2 * dead), ([dgV (pNx (tpP S n) 3)], tBy), ([], 2 * dead), ([dgV (pNx (tpP S n) 2)], tBy), ([], 2 * dead), ([dgV (pNx (tpP S n) 1)], tBy), ([], 2 * dead), ([dgV (pNx (tpP S n) 0)], tBy), (tpS S n, tU), (la, tR)]⟩ [(rowOk tU (tpS S n) 0 n c, true), (false, false), apL [] (tpP S n) 8 8, (true, true), apL [] (tpP S n) 7 7, (true, true), apL [] (tpP S n) 6 6, (true, true), apL [] (tpP S n) 5 5, (true, true), apL [] (tpP S n) 4 4, (true, true), apL [] (tpP S n) 3 3, (true, true), apL [] (tpP S n) 2 2, (true, true), apL [] (tpP S n) 1 1, (true, true), (false, false), (true, true), (Nat.beq tU tU, true), (Nat.beq tR tR, true), (rowOk tU S 0 n c, true), (la.all still, true), (([] : List (List Value × TypeId)).all fun x => x.1.all still, true), (decide ((n : Int) > 0), true)] := ⟨by kernel_rfl, by kernel_rfl, by kernel_rfl⟩
theorem dc_go1 (n c m : Nat) (a w : Value) (D S la : List Value) (g : Nat → Value) : GoesT (evC (tabH Tryz.prog extY conDc hcDc) 100 false (dL Tryz.f32) (dF a (sl 1 0 n c) (.slice (some ⟨2, 0, none⟩) m grown) w ++ tl 38 g, hX [(D, tBy)] S la, [cmp true, cmp true, at_, cmp true, at_, cmp true, at_, cmp true, at_, cmp true, at_, cmp true, at_, cmp true, at_, cmp true, at_, cmp true, at_, cmp false]) ⟨[], [], []⟩) 8 38 none (dF a (sl 1 0 (trS S n) c) (.slice (some ⟨20, 0, none⟩) (m + 9) grown) (uu (pNx (tpP S n) 9))) ⟨21, [(apB D (tpP S n) 9, tBy), ([dgV (pNx (tpP S n) 8)], tBy), ([], 2 * dead), ([dgV (pNx (tpP S n) 7)], tBy), ([], 2 * dead), ([dgV (pNx (tpP S n) 6)], tBy), ([], 2 * dead), ([dgV (pNx (tpP S n) 5)], tBy), ([], 2 * dead), ([dgV (pNx (tpP S n) 4)], tBy), ([], 2 * dead), ([dgV (pNx (tpP S n) 3)], tBy), ([], 2 * dead), ([dgV (pNx (tpP S n) 2)], tBy), ([], 2 * dead), ([dgV (pNx (tpP S n) 1)], tBy), ([], 2 * dead), ([dgV (pNx (tpP S n) 0)], tBy), ([], 2 * dead), (tpS S n, tU), (la, tR)]⟩ [(rowOk tU (tpS S n) 0 n c, true), (false, false), apL D (tpP S n) (m + 8) 8, (true, true), apL D (tpP S n) (m + 7) 7, (true, true), apL D (tpP S n) (m + 6) 6, (true, true), apL D (tpP S n) (m + 5) 5, (true, true), apL D (tpP S n) (m + 4) 4, (true, true), apL D (tpP S n) (m + 3) 3, (true, true), apL D (tpP S n) (m + 2) 2, (true, true), apL D (tpP S n) (m + 1) 1, (true, true), apL D (tpP S n) m 0, (true, true), (Nat.beq tU tU, true), (Nat.beq tR tR, true), (rowOk tU S 0 n c, true), (la.all still, true), (([(D, tBy)] : List (List Value × TypeId)).all fun x => x.1.all still, true), (decide ((n : Int) > 0), true)] := ⟨by kernel_rfl, by kernel_rfl, by kernel_rfl⟩
theorem dc_out (n c : Nat) (a d w : Value) (h : Hp) (g : Nat → Value) : GoesT (evC (tabH Tryz.prog extY conDc hcDc) 100 false (dL Tryz.f32) (dF a (sl 1 0 n c) d w ++ tl 38 g, h, [cmp false]) ⟨[], [], []⟩) 8 38 (some (some 0)) (dF a (sl 1 0 n c) d w) h [(decide ((n : Int) > 0), false)] := ⟨by kernel_rfl, by kernel_rfl, by kernel_rfl⟩
theorem dc_end (m : Nat) (a r w : Value) (b : ByteArray) (D : List Value) (Y : List Value × TypeId) (la : List Value) (g : Nat → Value) : GoesT (evC (tabH Tryz.prog extY conDc hcDc) 100 false (dE Tryz.f32) (dF a r (.slice (some ⟨2, 0, none⟩) m grown) w ++ tl 38 g, hB2 D Y la, [val (.string b)]) ⟨[], [], []⟩) 4 42 (some none) [a, undef, bS (trL 48 b.data.toList), .nilIface] (hB2 D.reverse Y la) [(decide ((48 : UInt8) = 48), true), (txtChk (D.reverse, tBy) 0 m b, true), (Y.1.all still, true), (Nat.beq tBy tBy, true), (Nat.beq tR tR, true), (Nat.beq m D.length, true), (isB D, true), (Nat.beq grown grown, true), (la.all still, true), (Nat.blt m 4611686018427387904, true)] := ⟨by kernel_rfl, by kernel_rfl, by kernel_rfl⟩
end Go.Proofs.YtgefjidphfdhdabGreatDoor.Na
namespace Go.Proofs.YtgefjidphfdhdabGreatDoor
open Go.KRun Go.Nt
set_option maxRecDepth 100000
theorem cutI_wT (W : List Int) (k : Nat) : cutI (wU W) 0 k = W.take k := by
  unfold cutI cutV wU
  rw [List.drop_zero, ← List.map_take, List.map_map]
  exact (List.map_congr_left fun x _ => rfl).trans (List.map_id' _)
/-- a digit's letter -/
def asc (x : Int) : Int := 48 + x
def decL (V : Nat) : List Int := if V = 0 then [0] else (db 10 V).reverse
/-- a number's letters -/
def decS (V : Nat) : List UInt8 := (decL V).map fun x => UInt8.ofNat (asc x).toNat
end Go.Proofs.YtgefjidphfdhdabGreatDoor
namespace Go.Proofs.YtgefjidphfdhdabGreatDoor.Na
open Go.KRun Go.Nt
set_option maxRecDepth 100000
theorem pNx_eq {p : Nat} (hp : p < 4294967296) : ∀ j, pNx (p : Nat) j = ((p / 10 ^ j : Nat) : Int)
  | 0 => by simp [pNx]
  | j + 1 => by
    have h1 : p / 10 ^ j ≤ p := Nat.div_le_self _ _
    rw [show pNx (p : Nat) (j + 1) = IntKind.u32.wrap ((pNx (p : Nat) j).tdiv 10) from rfl, pNx_eq hp j, Nat.pow_succ, ← Nat.div_div_eq_div_mul]
    generalize p / 10 ^ j = q at *
    rw [Int.tdiv_eq_ediv_of_nonneg (by omega)]
    simp [IntKind.wrap, IntKind.bits, IntKind.signed]
    omega
theorem dgV_eq {p : Nat} : dgV (p : Nat) = ub (asc ((p % 10 : Nat) : Int)) := by
  have e : ((p : Nat) : Int).tmod 10 = ((p % 10 : Nat) : Int) := by rw [Int.tmod_eq_emod_of_nonneg (by omega)]; omega
  unfold dgV asc
  rw [e]
  congr 1
  simp [IntKind.wrap, IntKind.bits, IntKind.signed]
  omega
theorem apB_eq {p : Nat} (hp : p < 4294967296) (D : List Int) : ∀ j, apB (wB (D.map asc)) (p : Nat) j = wB ((D ++ ld j p).map asc)
  | 0 => by simp [apB, ld]
  | j + 1 => by
    rw [show apB (wB (D.map asc)) (p : Nat) (j + 1) = apB (wB (D.map asc)) (p : Nat) j ++ [dgV (pNx (p : Nat) j)] from rfl, apB_eq hp D j, pNx_eq hp j, dgV_eq, ld_snoc]
    simp [wB]
theorem appChk_B {L : List Int} {x : Int} {k : Nat} (hk : k = L.length) (hb : k < 1073741824) : appChk tBy (wB L, tBy) ([ub x], tBy) k 0 1 = true := by
  subst hk
  unfold appChk
  simp only [Bool.and_eq_true, Bool.not_eq_true', wB_len]
  refine ⟨⟨⟨⟨⟨⟨⟨⟨Nat.beq_refl _, Nat.ble_eq_true_of_le (by omega)⟩, by kernel_rfl⟩, by kernel_rfl⟩, by kernel_rfl⟩, by kernel_rfl⟩, by rfl⟩, by rfl⟩, by rfl⟩
theorem apL_ok {p : Nat} (hp : p < 4294967296) (D : List Int) {m j : Nat} (hm : m = D.length + j) (hb : m < 1073741824) : (apL (wB (D.map asc)) (p : Nat) m j).1 = (apL (wB (D.map asc)) (p : Nat) m j).2 := by
  unfold apL
  simp only
  rw [apB_eq hp D j, pNx_eq hp j, dgV_eq]
  exact appChk_B (by simp [ld_len, hm]) hb
theorem wB_still (L : List Int) : (wB L).all still = true := by
  unfold wB
  rw [List.all_eq_true]
  intro v hv
  obtain ⟨x, _, rfl⟩ := List.mem_map.1 hv
  rfl
theorem pw_29 {k V : Nat} (h : 10 ^ (9 * k) ≤ V) {e : Nat} (he : e = 262144) (hV : V < 2 ^ e) : k < 9040 := by
  have h1 : (2 : Nat) ^ (29 * k) ≤ 10 ^ (9 * k) := by
    rw [Nat.pow_mul, Nat.pow_mul]
    exact Nat.pow_le_pow_left (by decide) k
  rcases Nat.lt_or_ge k 9040 with h2 | h2
  · exact h2
  · exfalso
    have h3 : (2 : Nat) ^ e ≤ 2 ^ (29 * k) := Nat.pow_le_pow_right (by omega) (by omega)
    omega
/-- the blocks above the words' -/
def dX (k : Nat) (D : List Int) : List (List Value × TypeId) := if k = 0 then [] else [(wB (D.map asc), tBy)]
def dS (k : Nat) (D : List Int) : Value := if k = 0 then nilS else .slice (some ⟨2, 0, none⟩) D.length grown
def dInv (a : Value) (la : List Value) (N V : Nat) (r : Nat) (y : Lf) : Prop := ∃ (k : Nat) (D W Z : List Int) (w : Value) (g : Nat → Value), y.1 = dF a (sl 1 0 W.length N) (dS k D) w ++ tl 38 g ∧ y.2.1 = hX (dX k D) (wU (W ++ Z)) la ∧ D.length = 9 * k ∧ (∀ x ∈ D, Dg 10 x) ∧ wds (W ++ Z) ∧ trimN W = W.length ∧ (W ++ Z).length = N ∧ vb 10 D + 10 ^ (9 * k) * vb 4294967296 W = V ∧ r = vb 4294967296 W ∧ k ≤ 9040
theorem vb_pos10 {W : List Int} (hw : wds W) (ht : trimN W = W.length) : 0 < vb 4294967296 W ↔ 0 < W.length := by
  have hd : db 4294967296 (vb 4294967296 W) = W := db_can (by omega) ⟨fun x hx => ⟨(hw x hx).1, by have := (hw x hx).2; omega⟩, ht⟩
  constructor
  · intro h
    rcases Nat.eq_zero_or_pos W.length with h0 | h0
    · rw [List.length_eq_zero_iff.1 h0] at h
      exact absurd h (by decide)
    · exact h0
  · intro h
    rcases Nat.eq_zero_or_pos (vb 4294967296 W) with h0 | h0
    · rw [h0, db_zero] at hd
      rw [← hd] at h
      exact absurd h (by decide)
    · exact h0
theorem wdsDg {W : List Int} (h : wds W) : ∀ x ∈ W, Dg 4294967296 x := fun x hx => ⟨(h x hx).1, by have := (h x hx).2; omega⟩
/-- what the words are behind a piece -/
theorem tp_words {W Z : List Int} (h : wds (W ++ Z)) : tpP (wU (W ++ Z)) W.length = ((vb 4294967296 W % 1000000000 : Nat) : Int) ∧ ∃ Z', tpS (wU (W ++ Z)) W.length = wU (db 4294967296 (vb 4294967296 W / 1000000000) ++ Z') ∧ trS (wU (W ++ Z)) W.length = (db 4294967296 (vb 4294967296 W / 1000000000)).length ∧ wds (db 4294967296 (vb 4294967296 W / 1000000000) ++ Z') ∧ (db 4294967296 (vb 4294967296 W / 1000000000) ++ Z').length = (W ++ Z).length := by
  have hW : wds W := fun x hx => h x (List.mem_append_left _ hx)
  have hZ : wds Z := fun x hx => h x (List.mem_append_right _ hx)
  have ec : cutI (wU (W ++ Z)) 0 W.length = W := by rw [cutI_wT, List.take_left]
  have ev := vN_vb hW
  have e1 : vN W / 1000000000 = ((vb 4294967296 W / 1000000000 : Nat) : Int) := by rw [ev]; omega
  have lt : vb 4294967296 W < 4294967296 ^ W.length := vb_lt (by omega) W (wdsDg hW)
  have hq : vb 4294967296 W / 1000000000 < 4294967296 ^ W.length := Nat.lt_of_le_of_lt (Nat.div_le_self _ _) lt
  have hqi : ((vb 4294967296 W / 1000000000 : Nat) : Int) < (4294967296 : Int) ^ W.length := by
    have h1 := Int.ofNat_lt.2 hq
    rw [Int.natCast_pow] at h1
    exact h1
  have eS : tpS (wU (W ++ Z)) W.length = wU (dg W.length ((vb 4294967296 W / 1000000000 : Nat) : Int) ++ Z) := by
    unfold tpS
    rw [ec, e1]
    have : (wU (W ++ Z)).drop W.length = wU Z := by unfold wU; rw [List.map_append, List.drop_left' (by simp)]
    rw [this]
    unfold wU
    rw [List.map_append]
  have hdg : wds (dg W.length ((vb 4294967296 W / 1000000000 : Nat) : Int)) := dg_wds _ _
  have htk := take_dg (m := W.length) (V := vb 4294967296 W / 1000000000) hqi
  have eT : trS (wU (W ++ Z)) W.length = (db 4294967296 (vb 4294967296 W / 1000000000)).length := by
    unfold trS
    rw [eS, cutI_wT, List.take_left' (dg_len _ _), ← htk, List.length_take, dg_len]
    have := trimN_le (dg W.length ((vb 4294967296 W / 1000000000 : Nat) : Int))
    rw [dg_len] at this
    omega
  have eD : dg W.length ((vb 4294967296 W / 1000000000 : Nat) : Int) = db 4294967296 (vb 4294967296 W / 1000000000) ++ (dg W.length ((vb 4294967296 W / 1000000000 : Nat) : Int)).drop (trimN (dg W.length ((vb 4294967296 W / 1000000000 : Nat) : Int))) := by
    conv => lhs; rw [← List.take_append_drop (trimN (dg W.length ((vb 4294967296 W / 1000000000 : Nat) : Int))) (dg W.length ((vb 4294967296 W / 1000000000 : Nat) : Int))]
    rw [htk]
  refine ⟨?_, (dg W.length ((vb 4294967296 W / 1000000000 : Nat) : Int)).drop (trimN (dg W.length ((vb 4294967296 W / 1000000000 : Nat) : Int))) ++ Z, ?_, eT, ?_, ?_⟩
  · unfold tpP
    rw [ec, ev]
    omega
  · rw [eS, ← List.append_assoc, ← eD]
  · rw [← List.append_assoc, ← eD]
    exact wds_app hdg hZ
  · rw [← List.append_assoc, ← eD]
    simp [dg_len]
end Go.Proofs.YtgefjidphfdhdabGreatDoor.Na
namespace Go.Rn
/-- whether it goes up: c: what is beyond a multiple: 0 nothing, 1 below a half, 2 a half, 3 above it -/
def upR (m : Int) (neg odd : Bool) (c : Int) : Bool :=
  if c = 0 then false else if m = 2 then false else if m = 3 then !neg else if m = 4 then neg else if m = 1 then decide (2 ≤ c) else decide (2 < c) || (decide (c = 2) && odd)
def restC (r P : Nat) : Int := if r = 0 then 0 else if 2 * r < P then 1 else if 2 * r = P then 2 else 3
def odd (q : Nat) : Bool := decide (q % 2 = 1)
def rq (m : Int) (neg : Bool) (T k : Nat) : Nat := T / 2 ^ k + (if upR m neg (odd (T / 2 ^ k)) (restC (T % 2 ^ k) (2 ^ k)) = true then 1 else 0)
def toQ (m : Int) (neg : Bool) (T : Nat) (E e : Int) : Nat := if e ≤ E then T * 2 ^ (E - e).toNat else rq m neg T (e - E).toNat
def toL (T : Nat) (E e : Int) : Bool := if e ≤ E then false else decide (T % 2 ^ (e - E).toNat ≠ 0)
def lgN (T : Nat) (E : Int) : Int := E + (bitLen T : Nat) - 1
def lowE (T : Nat) (E : Int) : Int := if lgN T E - 52 ≤ -1074 then -1074 else lgN T E - 52
/-- the pattern, as if there were no greatest -/
def p0 (m : Int) (neg : Bool) (T : Nat) (E : Int) : Int := (lowE T E + 1074) * 4503599627370496 + (toQ m neg T E (lowE T E) : Nat)
def tiny (m : Int) (neg : Bool) (T : Nat) (E : Int) : Bool := if lgN T E = -1023 then decide (toQ m neg T E (-1075) < 9007199254740992) else decide (lgN T E < -1022)
def bey (m : Int) (neg : Bool) : Int := if upR m neg true 3 = true then 9218868437227405312 else 9218868437227405311
def rnP (m : Int) (neg : Bool) (T : Nat) (E : Int) : Int := if T = 0 then 0 else if 9218868437227405312 ≤ p0 m neg T E then bey m neg else p0 m neg T E
def rnF (m : Int) (neg : Bool) (T : Nat) (E : Int) : Int := if T = 0 then 0 else if 9218868437227405312 ≤ p0 m neg T E then 20 else if toL T E (lowE T E) = true then (if tiny m neg T E = true then 24 else 16) else 0
/-! ### the two signs -/
def swM (m : Int) : Int := if m = 3 then 4 else if m = 4 then 3 else m
theorem upR_swM (m : Int) (neg o : Bool) (c : Int) : upR (swM m) (!neg) o c = upR m neg o c := by
  unfold upR swM
  by_cases h3 : m = 3
  · subst h3; simp
  · by_cases h4 : m = 4
    · subst h4; simp
    · simp [h3, h4]
theorem toQ_swM (m : Int) (neg : Bool) (T : Nat) (E e : Int) : toQ (swM m) (!neg) T E e = toQ m neg T E e := by
  unfold toQ rq
  simp only [upR_swM]
theorem rnP_swM (m : Int) (neg : Bool) (T : Nat) (E : Int) : rnP (swM m) (!neg) T E = rnP m neg T E := by
  unfold rnP p0 bey
  simp only [upR_swM, toQ_swM]
theorem rnF_swM (m : Int) (neg : Bool) (T : Nat) (E : Int) : rnF (swM m) (!neg) T E = rnF m neg T E := by
  unfold rnF p0 tiny
  simp only [toQ_swM]
/-! ### bits -/
theorem len_pos {T : Nat} (h : T ≠ 0) : 1 ≤ bitLen T := by unfold bitLen; rw [if_neg h]; omega
theorem len_uniq {T k : Nat} (h0 : 2 ^ k ≤ T) (h1 : T < 2 ^ (k + 1)) : bitLen T = k + 1 := by
  have hp : 0 < 2 ^ k := Nat.pow_pos (by omega)
  obtain ⟨a1, a2⟩ := bitLen_spec T
  have a2 := a2 (by omega)
  have a3 := len_pos (show T ≠ 0 by omega)
  rcases Nat.lt_or_ge (bitLen T) (k + 1) with h | h
  · have := Nat.pow_le_pow_right (show 0 < 2 by omega) (show bitLen T ≤ k by omega)
    omega
  · rcases Nat.lt_or_ge (k + 1) (bitLen T) with h' | h'
    · have := Nat.pow_le_pow_right (show 0 < 2 by omega) (show k + 1 ≤ bitLen T - 1 by omega)
      omega
    · omega
theorem len_le {T k : Nat} (h : T < 2 ^ k) : bitLen T ≤ k := by
  by_cases h0 : T = 0
  · subst h0; simp [bitLen]
  · have a2 := (bitLen_spec T).2 h0
    rcases Nat.lt_or_ge k (bitLen T) with h' | h'
    · have := Nat.pow_le_pow_right (show 0 < 2 by omega) (show k ≤ bitLen T - 1 by omega)
      omega
    · exact h'
theorem le_len {T k : Nat} (h : 2 ^ k ≤ T) : k + 1 ≤ bitLen T := by
  have a1 := (bitLen_spec T).1
  rcases Nat.lt_or_ge (bitLen T) (k + 1) with h' | h'
  · have := Nat.pow_le_pow_right (show 0 < 2 by omega) (show bitLen T ≤ k by omega)
    omega
  · exact h'
theorem len_mul {T : Nat} (h : T ≠ 0) (j : Nat) : bitLen (T * 2 ^ j) = bitLen T + j := by
  have hp : 0 < 2 ^ j := Nat.pow_pos (by omega)
  obtain ⟨a1, a2⟩ := bitLen_spec T
  have a2 := a2 h
  have a3 := len_pos h
  have e : bitLen T + j = (bitLen T - 1 + j) + 1 := by omega
  rw [e]
  apply len_uniq
  · rw [Nat.pow_add]; exact Nat.mul_le_mul_right _ a2
  · rw [show bitLen T - 1 + j + 1 = bitLen T + j by omega, Nat.pow_add]; exact Nat.mul_lt_mul_of_pos_right a1 hp
theorem len_mono {T U : Nat} (h : T ≤ U) : bitLen T ≤ bitLen U := len_le (Nat.lt_of_le_of_lt h (bitLen_spec U).1)
/-! ### what is beyond -/
theorem upR_zero (m : Int) (neg o : Bool) : upR m neg o 0 = false := by simp [upR]
theorem restC_zero (P : Nat) : restC 0 P = 0 := by simp [restC]
theorem restC_bd (r P : Nat) : 0 ≤ restC r P ∧ restC r P ≤ 3 := by unfold restC; split <;> (try split) <;> (try split) <;> omega
theorem restC_iff {r P : Nat} : restC r P = 0 ↔ r = 0 := by
  unfold restC
  split
  · simp_all
  · rename_i h; simp only [h, iff_false]; split <;> (try split) <;> omega
theorem restC_mono {r s P : Nat} (h : r ≤ s) : restC r P ≤ restC s P := by
  unfold restC
  by_cases h0 : r = 0
  · rw [if_pos h0]; split <;> (try split) <;> (try split) <;> omega
  · rw [if_neg h0, if_neg (show ¬ s = 0 by omega)]
    split <;> (try split) <;> (try split) <;> (try split) <;> omega
theorem restC_scale (r P j : Nat) : restC (r * 2 ^ j) (P * 2 ^ j) = restC r P := by
  have hp : 0 < 2 ^ j := Nat.pow_pos (by omega)
  unfold restC
  have e0 : (r * 2 ^ j = 0) ↔ r = 0 := by rw [Nat.mul_eq_zero]; omega
  have e1 : (2 * (r * 2 ^ j) < P * 2 ^ j) ↔ 2 * r < P := by rw [← Nat.mul_assoc]; exact Nat.mul_lt_mul_right hp
  have e2 : (2 * (r * 2 ^ j) = P * 2 ^ j) ↔ 2 * r = P := by rw [← Nat.mul_assoc]; exact Nat.mul_left_inj (by omega)
  simp only [e0, e1, e2]
theorem upR_mono {m : Int} {neg o : Bool} {c d : Int} (h0 : 0 ≤ c) (h : c ≤ d) (hu : upR m neg o c = true) : upR m neg o d = true := by
  unfold upR at *
  by_cases hc : c = 0
  · rw [if_pos hc] at hu; cases hu
  · rw [if_neg hc] at hu
    rw [if_neg (show ¬ d = 0 by omega)]
    by_cases h2 : m = 2
    · rw [if_pos h2] at hu; cases hu
    · rw [if_neg h2] at hu ⊢
      by_cases h3 : m = 3
      · rw [if_pos h3] at hu ⊢; exact hu
      · rw [if_neg h3] at hu ⊢
        by_cases h4 : m = 4
        · rw [if_pos h4] at hu ⊢; exact hu
        · rw [if_neg h4] at hu ⊢
          by_cases h1 : m = 1
          · rw [if_pos h1] at hu ⊢
            simp only [decide_eq_true_eq] at *
            omega
          · rw [if_neg h1] at hu ⊢
            simp only [Bool.or_eq_true, Bool.and_eq_true, decide_eq_true_eq] at *
            rcases hu with hu | ⟨hu, ho⟩
            · left; omega
            · by_cases hd : d = 2
              · right; exact ⟨hd, ho⟩
              · left; omega
/-! ### multiples -/
theorem rq_bd (m : Int) (neg : Bool) (T k : Nat) : T / 2 ^ k ≤ rq m neg T k ∧ rq m neg T k ≤ T / 2 ^ k + 1 := by unfold rq; split <;> omega
theorem rq_exact {m : Int} {neg : Bool} {T k : Nat} (h : T % 2 ^ k = 0) : rq m neg T k = T / 2 ^ k := by
  unfold rq
  rw [h, restC_zero, upR_zero]
  simp
theorem rq_scale (m : Int) (neg : Bool) (T k j : Nat) : rq m neg (T * 2 ^ j) (k + j) = rq m neg T k := by
  have hp : 0 < 2 ^ j := Nat.pow_pos (by omega)
  unfold rq
  rw [Nat.pow_add, Nat.mul_div_mul_right _ _ hp, Nat.mul_mod_mul_right, restC_scale]
theorem rq_mono {m : Int} {neg : Bool} {T U : Nat} (k : Nat) (h : T ≤ U) : rq m neg T k ≤ rq m neg U k := by
  have hp : 0 < 2 ^ k := Nat.pow_pos (by omega)
  have hd : T / 2 ^ k ≤ U / 2 ^ k := Nat.div_le_div_right h
  have b1 := rq_bd m neg T k
  have b2 := rq_bd m neg U k
  by_cases he : T / 2 ^ k = U / 2 ^ k
  · have m1 := Nat.div_add_mod T (2 ^ k)
    have m2 := Nat.div_add_mod U (2 ^ k)
    have hr : T % 2 ^ k ≤ U % 2 ^ k := by rw [he] at m1; omega
    unfold rq
    rw [he]
    by_cases hu : upR m neg (odd (U / 2 ^ k)) (restC (T % 2 ^ k) (2 ^ k)) = true
    · rw [if_pos hu, if_pos (upR_mono (restC_bd _ _).1 (restC_mono hr) hu)]
      omega
    · rw [if_neg hu]; split <;> omega
  · omega
/-- scale: the same number told in two ways -/
theorem toQ_scale (m : Int) (neg : Bool) (T j : Nat) (E e : Int) : toQ m neg (T * 2 ^ j) (E - j) e = toQ m neg T E e := by
  unfold toQ
  by_cases h1 : e ≤ E
  · rw [if_pos h1]
    by_cases h2 : e ≤ E - j
    · rw [if_pos h2, Nat.mul_assoc, ← Nat.pow_add]
      congr 2; omega
    · rw [if_neg h2]
      have ej : j = (E - e).toNat + (e - (E - j)).toNat := by omega
      have e1 : T * 2 ^ j = T * 2 ^ (E - e).toNat * 2 ^ (e - (E - j)).toNat := by rw [Nat.mul_assoc, ← Nat.pow_add, ← ej]
      have hp : 0 < 2 ^ (e - (E - j)).toNat := Nat.pow_pos (by omega)
      rw [e1, rq_exact (Nat.mul_mod_left _ _), Nat.mul_div_cancel _ hp]
  · rw [if_neg h1, if_neg (by omega), show (e - (E - j)).toNat = (e - E).toNat + j by omega, rq_scale]
theorem toL_scale (T j : Nat) (E e : Int) : toL (T * 2 ^ j) (E - j) e = toL T E e := by
  have hp : 0 < 2 ^ j := Nat.pow_pos (by omega)
  unfold toL
  by_cases h1 : e ≤ E
  · rw [if_pos h1]
    by_cases h2 : e ≤ E - j
    · rw [if_pos h2]
    · rw [if_neg h2]
      have ej : j = (E - e).toNat + (e - (E - j)).toNat := by omega
      have e1 : T * 2 ^ j = T * 2 ^ (E - e).toNat * 2 ^ (e - (E - j)).toNat := by rw [Nat.mul_assoc, ← Nat.pow_add, ← ej]
      rw [e1, Nat.mul_mod_left]
      simp
  · rw [if_neg h1, if_neg (by omega), show (e - (E - j)).toNat = (e - E).toNat + j by omega, Nat.pow_add, Nat.mul_mod_mul_right]
    congr 1
    rw [ne_eq, ne_eq, Nat.mul_eq_zero]
    simp only [eq_iff_iff]
    omega
theorem lgN_scale {T : Nat} (h : T ≠ 0) (j : Nat) (E : Int) : lgN (T * 2 ^ j) (E - j) = lgN T E := by
  unfold lgN
  rw [len_mul h]
  omega
theorem lowE_scale {T : Nat} (h : T ≠ 0) (j : Nat) (E : Int) : lowE (T * 2 ^ j) (E - j) = lowE T E := by unfold lowE; rw [lgN_scale h]
theorem p0_scale {T : Nat} (h : T ≠ 0) (m : Int) (neg : Bool) (j : Nat) (E : Int) : p0 m neg (T * 2 ^ j) (E - j) = p0 m neg T E := by unfold p0; rw [lowE_scale h, toQ_scale]
theorem tiny_scale {T : Nat} (h : T ≠ 0) (m : Int) (neg : Bool) (j : Nat) (E : Int) : tiny m neg (T * 2 ^ j) (E - j) = tiny m neg T E := by unfold tiny; rw [lgN_scale h, toQ_scale]
theorem scale_ne {T : Nat} (j : Nat) : (T * 2 ^ j = 0) = (T = 0) := by
  have hp : 0 < 2 ^ j := Nat.pow_pos (by omega)
  rw [Nat.mul_eq_zero]
  simp only [eq_iff_iff]
  omega
theorem rnP_scale (m : Int) (neg : Bool) (T j : Nat) (E : Int) : rnP m neg (T * 2 ^ j) (E - j) = rnP m neg T E := by
  unfold rnP
  simp only [scale_ne]
  by_cases h : T = 0
  · rw [if_pos h, if_pos h]
  · rw [if_neg h, if_neg h, p0_scale h]
theorem rnF_scale (m : Int) (neg : Bool) (T j : Nat) (E : Int) : rnF m neg (T * 2 ^ j) (E - j) = rnF m neg T E := by
  unfold rnF
  simp only [scale_ne]
  by_cases h : T = 0
  · rw [if_pos h, if_pos h]
  · rw [if_neg h, if_neg h, p0_scale h, tiny_scale h, lowE_scale h, toL_scale]
end Go.Rn
