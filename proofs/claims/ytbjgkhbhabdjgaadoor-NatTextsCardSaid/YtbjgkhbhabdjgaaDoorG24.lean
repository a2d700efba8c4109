/-
  Contracts whose numbers are told ahead (letters), for laws whose memories would else grow with every call.
-/
import Derived.Test.YtbjgkhbhabdjgaaDoorG23
import Derived.Test.YtbjgkhbhabdjgaaDoorG15
import Derived.Test.YtbjgkhbhabdjgaaDoorG18
import Derived.Test.YtbjgkhbhabdjgaaDoorG12
import Derived.Test.YtbjgkhbhabdjgaaDoorG14
namespace Go.Proofs.YtbjgkhbhabdjgaaDoor
open Go.KRun Go.Nt
set_option maxRecDepth 100000
set_option linter.unusedVariables false

theorem log_tl {x : Bool × Bool} {l : Log} (h : okLog (x :: l)) : x.1 = x.2 ∧ okLog l := ⟨h _ List.mem_cons_self, fun y hy => h y (List.mem_cons_of_mem _ hy)⟩
def gFromN : AnsH := fun vals h s =>
  match vals, s with
  | [.slice p n c], .inr (.inr (.inr (.inl d))) :: s' =>
    match d, s' with
    | true, .inr (.inl V) :: s2 => mk16 V.toNat h s2 [(decide (v32O h p n = V.toNat), true), (rowX h p n c && Nat.ble n 1000000, true), (decide (0 < n), true)]
    | false, _ => some (nilS, h, s', [(decide (0 < n), false)])
    | _, _ => none
  | _, _ => none
theorem gFromN_ok : AnsHOk 16 gFromN := by
  intro vals h s v h' s' lg hg hl
  unfold gFromN at hg
  split at hg
  · rename_i p n c d s2
    split at hg
    · rename_i V s3
      unfold mk16 at hg
      cases hg
      obtain ⟨l1, l2⟩ := log_tl hl
      have l1 := of_decide_eq_true l1
      refine gFromU_ok _ h [cmp true] _ _ [] _ ?_ l2
      simp only [gFromU, mk16, l1]
    · cases hg
      exact gFromU_ok _ h [cmp false] _ _ [] _ rfl hl
    · cases hg
  · cases hg
def gUaddN : AnsH := fun vals h s =>
  match vals, s with
  | [.slice p n c, .slice q n' c'], .inr (.inr (.inr (.inl d))) :: s' =>
    match d, s' with
    | true, .inr (.inl V) :: s2 => mk16 V.toNat h s2 [(decide (vO h p n + vO h q n' = V.toNat), true), (two16 h p q n c n' c', true), (decide (0 < n ∨ 0 < n'), true)]
    | false, _ => some (nilS, h, s', [(two16 h p q n c n' c', true), (decide (0 < n ∨ 0 < n'), false)])
    | _, _ => none
  | _, _ => none
theorem gUaddN_ok : AnsHOk 20 gUaddN := by
  intro vals h s v h' s' lg hg hl
  unfold gUaddN at hg
  split at hg
  · rename_i p n c q n' c' d s2
    split at hg
    · rename_i V s3
      unfold mk16 at hg
      cases hg
      obtain ⟨l1, l2⟩ := log_tl hl
      have l1 := of_decide_eq_true l1
      refine gUadd_ok _ h [cmp true] _ _ [] _ ?_ l2
      simp only [gUadd, mk16, l1]
    · cases hg
      exact gUadd_ok _ h [cmp false] _ _ [] _ rfl hl
    · cases hg
  · cases hg
def gUsubN : AnsH := fun vals h s =>
  match vals, s with
  | [.slice p n c, .slice q n' c'], .inr (.inr (.inr (.inl d))) :: s' =>
    match d, s' with
    | true, .inr (.inl V) :: s2 => mk16 V.toNat h s2 [(decide (vO h p n - vO h q n' = V.toNat), true), (two16 h p q n c n' c' && Nat.ble (vO h q n') (vO h p n), true), (decide (0 < n), true)]
    | false, _ => some (nilS, h, s', [(two16 h p q n c n' c', true), (decide (0 < n), false)])
    | _, _ => none
  | _, _ => none
theorem gUsubN_ok : AnsHOk 21 gUsubN := by
  intro vals h s v h' s' lg hg hl
  unfold gUsubN at hg
  split at hg
  · rename_i p n c q n' c' d s2
    split at hg
    · rename_i V s3
      unfold mk16 at hg
      cases hg
      obtain ⟨l1, l2⟩ := log_tl hl
      have l1 := of_decide_eq_true l1
      refine gUsub_ok _ h [cmp true] _ _ [] _ ?_ l2
      simp only [gUsub, mk16, l1]
    · cases hg
      exact gUsub_ok _ h [cmp false] _ _ [] _ rfl hl
    · cases hg
  · cases hg
def gWdN : AnsH := fun vals h s =>
  match vals, s with
  | [.slice p n c], .inr (.inr (.inr (.inl d))) :: s' =>
    match d, s' with
    | true, .inr (.inl V) :: s2 => some (sl h.n 0 (d32 V.toNat).length grown, h.push (wU (d32 V.toNat)) tU, s2, [(decide (vO h p n = V.toNat), true), (okWd h p n c, true), (decide (0 < n), true)])
    | false, _ => some (nilS, h, s', [(decide (0 < n), false)])
    | _, _ => none
  | _, _ => none
theorem gWdN_ok : AnsHOk 19 gWdN := by
  intro vals h s v h' s' lg hg hl
  unfold gWdN at hg
  split at hg
  · rename_i p n c d s2
    split at hg
    · rename_i V s3
      cases hg
      obtain ⟨l1, l2⟩ := log_tl hl
      have l1 := of_decide_eq_true l1
      refine gWd_ok _ h [cmp true] _ _ [] _ ?_ l2
      simp only [gWd, l1]
    · cases hg
      exact gWd_ok _ h [cmp false] _ _ [] _ rfl hl
    · cases hg
  · cases hg
/-- the sum's row, of a number told ahead -/
def gAddN : AnsH := fun vals h s =>
  match vals, s with
  | [.slice p n c, .slice q n' c'], .inr (.inr (.inr (.inl true))) :: s' => some (.tuple #[nilS, errV 1], h, s', [(rowX h p n c, true), (rowX h q n' c', true), (badL (rowOf h p n) || badL (rowOf h q n'), true)])
  | [.slice p n c, .slice q n' c'], .inr (.inr (.inr (.inl false))) :: .inr (.inl V) :: s' => some (.tuple #[sl h.n 0 (trimN (dg (mxN n n' + 1) V)) (mxN n n' + 1), .nilIface], h.push (wU (dg (mxN n n' + 1) V)) tU, s', [(decide (sumR (rowOf h p n) (rowOf h q n') = dg (mxN n n' + 1) V), true), (rowX h p n c, true), (rowX h q n' c', true), (badL (rowOf h p n) || badL (rowOf h q n') || decide ((trimN (dg (mxN n n' + 1) V) : Int) > 8192), false)])
  | _, _ => none
theorem gAddN_ok : AnsHOk 10 gAddN := by
  intro vals h s v h' s' lg hg hl
  unfold gAddN at hg
  split at hg
  · cases hg
    exact gAddU_ok _ h [cmp true] _ _ [] _ rfl hl
  · rename_i p n c q n' c' V s3
    cases hg
    obtain ⟨l1, l2⟩ := log_tl hl
    have l1 := of_decide_eq_true l1
    refine gAddU_ok _ h [cmp false] _ _ [] _ ?_ l2
    simp only [gAddU, l1]
  · cases hg
def gSubN : AnsH := fun vals h s =>
  match vals, s with
  | [.slice p n c, .slice q n' c'], .inr (.inr (.inr (.inl true))) :: s' => some (.tuple #[nilS, errV 1], h, s', [(rowX h p n c, true), (rowX h q n' c', true), (badL (rowOf h p n) || badL (rowOf h q n'), true)])
  | [.slice p n c, .slice q n' c'], .inr (.inr (.inr (.inl false))) :: .inr (.inr (.inr (.inl true))) :: s' => some (.tuple #[nilS, errV 4], h, s', [(rowX h p n c, true), (rowX h q n' c', true), (!(badL (rowOf h p n) || badL (rowOf h q n')) && decide (cmpL (rowOf h p n) (rowOf h q n') < 0), true)])
  | [.slice p n c, .slice q n' c'], .inr (.inr (.inr (.inl false))) :: .inr (.inr (.inr (.inl false))) :: .inr (.inl V) :: s' => some (.tuple #[sl h.n 0 (trimN (dg n V)) n, .nilIface], h.push (wU (dg n V)) tU, s', [(decide (difL (rowOf h p n) (rowOf h q n') = dg n V), true), (rowX h p n c, true), (rowX h q n' c', true), (badL (rowOf h p n) || badL (rowOf h q n') || decide (cmpL (rowOf h p n) (rowOf h q n') < 0), false)])
  | _, _ => none
theorem gSubN_ok : AnsHOk 11 gSubN := by
  intro vals h s v h' s' lg hg hl
  unfold gSubN at hg
  split at hg
  · cases hg
    exact gSubU_ok _ h [cmp true] _ _ [] _ rfl hl
  · cases hg
    exact gSubU_ok _ h [cmp false, cmp true] _ _ [] _ rfl hl
  · rename_i p n c q n' c' V s3
    cases hg
    obtain ⟨l1, l2⟩ := log_tl hl
    have l1 := of_decide_eq_true l1
    refine gSubU_ok _ h [cmp false, cmp false] _ _ [] _ ?_ l2
    simp only [gSubU, l1]
  · cases hg
/-- which is less, told ahead -/
def gCmpN : AnsH := fun vals h s =>
  match vals, s with
  | [.slice p n c, .slice q n' c'], .inr (.inl k) :: s' => some (i6' k, h, s', [(decide (cmpL (rowOf h p n) (rowOf h q n') = k), true), (rowX h p n c, true), (rowX h q n' c', true)])
  | _, _ => none
theorem gCmpN_ok : AnsHOk 39 gCmpN := by
  intro vals h s v h' s' lg hg hl
  unfold gCmpN at hg
  split at hg
  · rename_i p n c q n' c' V s3
    cases hg
    obtain ⟨l1, l2⟩ := log_tl hl
    have l1 := of_decide_eq_true l1
    refine gCmpU_ok _ h [] _ _ [] _ ?_ l2
    simp only [gCmpU, l1]
  · cases hg
def gUcmpN : AnsH := fun vals h s =>
  match vals, s with
  | [.slice p n c, .slice q n' c'], .inr (.inl k) :: s' => some (.int .i64 k, h, s', [(decide (cmpZ (vO h p n) (vO h q n') = k), true), (two16 h p q n c n' c', true)])
  | _, _ => none
theorem gUcmpN_ok : AnsHOk 17 gUcmpN := by
  intro vals h s v h' s' lg hg hl
  unfold gUcmpN at hg
  split at hg
  · rename_i p n c q n' c' V s3
    cases hg
    obtain ⟨l1, l2⟩ := log_tl hl
    have l1 := of_decide_eq_true l1
    refine gUcmp_ok _ h [] _ _ [] _ ?_ l2
    simp only [gUcmp, l1]
  · cases hg
def hcN2 : Hc := altH 10 gAddN (altH 11 gSubN (altH 39 gCmpN (altH 20 gUaddN (altH 21 gUsubN (altH 17 gUcmpN (altH 16 gFromN (altH 19 gWdN hcLn)))))))
theorem hcN2_ok : HcOk hcN2 := altH_ok Tryd.func10 rfl gAddN_ok (altH_ok Tryd.func11 rfl gSubN_ok (altH_ok Tryd.func39 rfl gCmpN_ok (altH_ok Tryd.func20 rfl gUaddN_ok (altH_ok Tryd.func21 rfl gUsubN_ok (altH_ok Tryd.func17 rfl gUcmpN_ok (altH_ok Tryd.func16 rfl gFromN_ok (altH_ok Tryd.func19 rfl gWdN_ok hcLn_ok)))))))
end Go.Proofs.YtbjgkhbhabdjgaaDoor

/-
  nat.Decimal, in pieces.
-/
namespace Go.Proofs.YtbjgkhbhabdjgaaDoor
open Go.KRun Go.Nt
set_option maxRecDepth 100000

def dC (F : Func) : Nat → Code
  | 0 => cBody F
  | n + 1 => cSnd (dC F n)
def dP (F : Func) : List Code := [cFst (dC F 0), cFst (dC F 1), cFst (dC F 2), cFst (dC F 3), cFst (dC F 4), cFst (dC F 5)]
def dL (F : Func) : Code := cIn (cIn (cFst (dC F 6)))
def dE (F : Func) : Code := dC F 7
theorem dc_body : Tryd.f32.body = some (seqs (dP Tryd.f32) (.seq (.block 0 (.loop (dL Tryd.f32))) (dE Tryd.f32))) := by kernel_rfl
def conDc : Con := alt 56 gTrl conN
theorem conDc_ok : ConOk conDc := alt_ok Tryd.func56 rfl gTrl_ok conN_ok
def hcDc : Hc := altH 13 gChkU (altH 54 gTp (altH 41 gTrim (altH 55 gRv hcN)))
theorem hcDc_ok : HcOk hcDc := altH_ok Tryd.func13 rfl gChkU_ok (altH_ok Tryd.func54 rfl gTp_ok (altH_ok Tryd.func41 rfl gTrim_ok (altH_ok Tryd.func55 rfl gRv_ok hcN_ok)))
theorem tabDc : TabOk (tabH Tryd.prog extY conDc hcDc) := tabH_ok conDc_ok hcDc_ok
def cpD (l : List Value) (o n : Nat) : List Value := List.take (n.min n) (List.drop o l) ++ List.drop (0 + n.min n) (List.replicate n (Value.int .u32 0))
def cpC (l : List Value) (o n : Nat) : Bool := !(tomb tR) && !(ro tU) && (o + n.min n).ble l.length && (0 + n.min n).ble (List.replicate n (Value.int .u32 0)).length && (List.take (n.min n) (List.drop o l)).all one
def dF (a rest dig p : Value) : List Value := [a, undef, bS [], .nilIface, .nilIface, rest, dig, p]
def h1R (l : List Value) : Hp := ⟨1, [(l, tR)]⟩
theorem dc_pre (o n c : Nat) (l : List Value) : GoesT (evL (tabH Tryd.prog extY conDc hcDc) 100 (dP Tryd.f32) ([sl 0 o n c] ++ List.replicate 45 undef, h1R l, [cmp false, cmp false, at_, at_]) ⟨[], [], []⟩) 8 38 none (dF (sl 0 o n c) (sl 1 0 n n) nilS undef) (hX [] (cpD l o n) l) [(cpC l o n, true), (okMakeB 4 n n, true), ((n : Int) == 0, false), (rowX (h1R l) (some ⟨0, o, none⟩) n c, true), (badL (rowOf (h1R l) (some ⟨0, o, none⟩) n), false)] := ⟨by kernel_rfl, by kernel_rfl, by kernel_rfl⟩
theorem dc_bad (p : Option Addr) (n c : Nat) (h : Hp) : GoesT (evC (tabH Tryd.prog extY conDc hcDc) 100 false (cBody Tryd.f32) ([.slice p n c] ++ List.replicate 45 undef, h, [cmp true]) ⟨[], [], []⟩) 4 42 (some none) [.slice p n c, undef, bS [], errV 1] h [(rowX h p n c, true), (badL (rowOf h p n), true)] := ⟨by kernel_rfl, by kernel_rfl, by kernel_rfl⟩
theorem dc_zero (p : Option Addr) (n c : Nat) (h : Hp) : GoesT (evC (tabH Tryd.prog extY conDc hcDc) 100 false (cBody Tryd.f32) ([.slice p n c] ++ List.replicate 45 undef, h, [cmp false, cmp true]) ⟨[], [], []⟩) 4 42 (some none) [.slice p n c, undef, bS [48], .nilIface] h [((n : Int) == 0, true), (rowX h p n c, true), (badL (rowOf h p n), false)] := ⟨by kernel_rfl, by kernel_rfl, by kernel_rfl⟩
def pNx (p : Int) : Nat → Int
  | 0 => p
  | j + 1 => IntKind.u32.wrap ((pNx p j).tdiv 10)
def dgV (p : Int) : Value := ub (IntKind.u8.wrap (IntKind.u32.wrap (48 + p.tmod 10)))
def apB (S : List Value) (p : Int) : Nat → List Value
  | 0 => S
  | j + 1 => apB S p j ++ [dgV (pNx p j)]
def tpP (S : List Value) (n : Nat) : Int := vN (cutI S 0 n) % 1000000000
def apL (S : List Value) (p : Int) (n j : Nat) : Bool × Bool := (appChk tBy (apB S p j, tBy) ([dgV (pNx p j)], tBy) n 0 1, true)
def trS (S : List Value) (n : Nat) : Nat := trimN (cutI (tpS S n) 0 n)
theorem dc_go0 (n c : Nat) (a w : Value) (S la : List Value) (g : Nat → Value) : GoesT (evC (tabH Tryd.prog extY conDc hcDc) 100 false (dL Tryd.f32) (dF a (sl 1 0 n c) nilS w ++ tl 38 g, hX [] S la, [cmp true, cmp true, cmp false, cmp true, at_, cmp true, at_, cmp true, at_, cmp true, at_, cmp true, at_, cmp true, at_, cmp true, at_, cmp true, at_, cmp false]) ⟨[], [], []⟩) 8 38 none (dF a (sl 1 0 (trS S n) c) (.slice (some ⟨19, 0, none⟩) 9 grown) (uu (pNx (tpP S n) 9))) ⟨20, [(apB [] (tpP S n) 9, tBy), ([dgV (pNx (tpP S n) 8)], tBy), ([], 2 * dead), ([dgV (pNx (tpP S n) 7)], tBy), ([], 2 * dead), ([dgV (pNx (tpP S n) 6)], tBy), ([], 2 * dead), ([dgV (pNx (tpP S n) 5)], tBy), ([], 2 * dead), ([dgV (pNx (tpP S n) 4)], tBy), ([], 2 * dead), ([dgV (pNx (tpP S n) 3)], tBy), ([], 2 * dead), ([dgV (pNx (tpP S n) 2)], tBy), ([], 2 * dead), ([dgV (pNx (tpP S n) 1)], tBy), ([], 2 * dead), ([dgV (pNx (tpP S n) 0)], tBy), (tpS S n, tU), (la, tR)]⟩ [(rowOk tU (tpS S n) 0 n c, true), (false, false), apL [] (tpP S n) 8 8, (true, true), apL [] (tpP S n) 7 7, (true, true), apL [] (tpP S n) 6 6, (true, true), apL [] (tpP S n) 5 5, (true, true), apL [] (tpP S n) 4 4, (true, true), apL [] (tpP S n) 3 3, (true, true), apL [] (tpP S n) 2 2, (true, true), apL [] (tpP S n) 1 1, (true, true), (false, false), (true, true), (Nat.beq tU tU, true), (Nat.beq tR tR, true), (rowOk tU S 0 n c, true), (la.all still, true), (([] : List (List Value × TypeId)).all fun x => x.1.all still, true), (decide ((n : Int) > 0), true)] := ⟨by kernel_rfl, by kernel_rfl, by kernel_rfl⟩
theorem dc_go1 (n c m : Nat) (a w : Value) (D S la : List Value) (g : Nat → Value) : GoesT (evC (tabH Tryd.prog extY conDc hcDc) 100 false (dL Tryd.f32) (dF a (sl 1 0 n c) (.slice (some ⟨2, 0, none⟩) m grown) w ++ tl 38 g, hX [(D, tBy)] S la, [cmp true, cmp true, at_, cmp true, at_, cmp true, at_, cmp true, at_, cmp true, at_, cmp true, at_, cmp true, at_, cmp true, at_, cmp true, at_, cmp false]) ⟨[], [], []⟩) 8 38 none (dF a (sl 1 0 (trS S n) c) (.slice (some ⟨20, 0, none⟩) (m + 9) grown) (uu (pNx (tpP S n) 9))) ⟨21, [(apB D (tpP S n) 9, tBy), ([dgV (pNx (tpP S n) 8)], tBy), ([], 2 * dead), ([dgV (pNx (tpP S n) 7)], tBy), ([], 2 * dead), ([dgV (pNx (tpP S n) 6)], tBy), ([], 2 * dead), ([dgV (pNx (tpP S n) 5)], tBy), ([], 2 * dead), ([dgV (pNx (tpP S n) 4)], tBy), ([], 2 * dead), ([dgV (pNx (tpP S n) 3)], tBy), ([], 2 * dead), ([dgV (pNx (tpP S n) 2)], tBy), ([], 2 * dead), ([dgV (pNx (tpP S n) 1)], tBy), ([], 2 * dead), ([dgV (pNx (tpP S n) 0)], tBy), ([], 2 * dead), (tpS S n, tU), (la, tR)]⟩ [(rowOk tU (tpS S n) 0 n c, true), (false, false), apL D (tpP S n) (m + 8) 8, (true, true), apL D (tpP S n) (m + 7) 7, (true, true), apL D (tpP S n) (m + 6) 6, (true, true), apL D (tpP S n) (m + 5) 5, (true, true), apL D (tpP S n) (m + 4) 4, (true, true), apL D (tpP S n) (m + 3) 3, (true, true), apL D (tpP S n) (m + 2) 2, (true, true), apL D (tpP S n) (m + 1) 1, (true, true), apL D (tpP S n) m 0, (true, true), (Nat.beq tU tU, true), (Nat.beq tR tR, true), (rowOk tU S 0 n c, true), (la.all still, true), (([(D, tBy)] : List (List Value × TypeId)).all fun x => x.1.all still, true), (decide ((n : Int) > 0), true)] := ⟨by kernel_rfl, by kernel_rfl, by kernel_rfl⟩
theorem dc_out (n c : Nat) (a d w : Value) (h : Hp) (g : Nat → Value) : GoesT (evC (tabH Tryd.prog extY conDc hcDc) 100 false (dL Tryd.f32) (dF a (sl 1 0 n c) d w ++ tl 38 g, h, [cmp false]) ⟨[], [], []⟩) 8 38 (some (some 0)) (dF a (sl 1 0 n c) d w) h [(decide ((n : Int) > 0), false)] := ⟨by kernel_rfl, by kernel_rfl, by kernel_rfl⟩
theorem dc_end (m : Nat) (a r w : Value) (b : ByteArray) (D : List Value) (Y : List Value × TypeId) (la : List Value) (g : Nat → Value) : GoesT (evC (tabH Tryd.prog extY conDc hcDc) 100 false (dE Tryd.f32) (dF a r (.slice (some ⟨2, 0, none⟩) m grown) w ++ tl 38 g, hB2 D Y la, [val (.string b)]) ⟨[], [], []⟩) 4 42 (some none) [a, undef, bS (trL 48 b.data.toList), .nilIface] (hB2 D.reverse Y la) [(decide ((48 : UInt8) = 48), true), (txtChk (D.reverse, tBy) 0 m b, true), (Y.1.all still, true), (Nat.beq tBy tBy, true), (Nat.beq tR tR, true), (Nat.beq m D.length, true), (isB D, true), (Nat.beq grown grown, true), (la.all still, true), (Nat.blt m 4611686018427387904, true)] := ⟨by kernel_rfl, by kernel_rfl, by kernel_rfl⟩
end Go.Proofs.YtbjgkhbhabdjgaaDoor

/-
  Numbers: the words of a sum and of a difference; which is less.
-/
namespace Go.Nt

theorem vN_vb : ∀ {L : List Int}, wds L → vN L = (vb 4294967296 L : Nat)
  | [], _ => rfl
  | x :: r, h => by
    obtain ⟨h1, h2⟩ := wds_tail h
    have := vN_vb h2
    show x + 4294967296 * vN r = ((x.toNat + 4294967296 * vb 4294967296 r : Nat) : Int)
    rw [this]
    omega
theorem vN_dg : ∀ (m : Nat) (V : Int), 0 ≤ V → V < 4294967296 ^ m → vN (dg m V) = V
  | 0, V, h0, h1 => by
    have : V = 0 := by rw [Int.pow_zero] at h1; omega
    subst this
    rfl
  | m + 1, V, h0, h1 => by
    rw [pw] at h1
    have h2 := vN_dg m (V / 4294967296) (by omega) (by omega)
    simp only [dg, vN]
    rw [h2]
    omega
theorem take_dg {m : Nat} {V : Nat} (h : (V : Int) < 4294967296 ^ m) : (dg m V).take (trimN (dg m V)) = db 4294967296 V := by
  have hw := dg_wds m V
  rw [take_trim (b := 4294967296) (by omega) _ hw]
  have h1 := vN_dg m V (by omega) h
  rw [vN_vb hw] at h1
  rw [Int.ofNat.inj h1]
theorem topCmp_in (L M : List Int) : ∀ k, topCmp L M k = -1 ∨ topCmp L M k = 0 ∨ topCmp L M k = 1
  | 0 => .inr (.inl rfl)
  | k + 1 => by
    unfold topCmp
    split
    · exact topCmp_in L M k
    · split
      · exact .inl rfl
      · exact .inr (.inr rfl)
theorem cmpL_in (L M : List Int) : cmpL L M = -1 ∨ cmpL L M = 0 ∨ cmpL L M = 1 := by
  unfold cmpL
  split
  · exact topCmp_in _ _ _
  · split
    · exact .inl rfl
    · exact .inr (.inr rfl)
theorem cmpL_vb {L M : List Int} (hL : canon L) (hM : canon M) : cmpL L M = if vb 4294967296 L < vb 4294967296 M then -1 else if vb 4294967296 L = vb 4294967296 M then 0 else 1 := by
  have h := cmpL_val hL hM
  rw [vN_vb hL.1, vN_vb hM.1] at h
  have h3 := cmpL_in L M
  split
  · have := h.1.2 (by omega)
    omega
  · split
    · exact h.2.2 (by omega)
    · have h1 : ¬ cmpL L M < 0 := fun hx => by have := h.1.1 hx; omega
      have h2 : ¬ cmpL L M = 0 := fun hx => by have := h.2.1 hx; omega
      omega
theorem vb_pos {L : List Int} (hL : canon L) : 0 < vb 4294967296 L ↔ 0 < L.length := by
  constructor
  · intro h
    rcases Nat.eq_zero_or_pos L.length with h0 | h0
    · rw [List.eq_nil_of_length_eq_zero h0] at h
      exact absurd h (by decide)
    · exact h0
  · intro h0
    have h1 := vN_low hL.1 h0 (hL.2.resolve_left (by omega))
    rw [vN_vb hL.1] at h1
    have := pw_pos (L.length - 1)
    omega
theorem vb_lt32 {L : List Int} (hL : wds L) {m : Nat} (h : L.length ≤ m) : vb 4294967296 L < 4294967296 ^ m := by
  have h1 := vb_lt (b := 4294967296) (by omega) L hL
  exact Nat.lt_of_lt_of_le h1 (Nat.pow_le_pow_right (by omega) h)
theorem len16 {V m : Nat} (h : V < 4294967296 ^ m) : (db 65536 V).length ≤ 2 * m := by
  refine db_len (by omega) (2 * m) V ?_
  rw [Nat.pow_mul]
  exact h
theorem len32 {V m : Nat} (h : V < 4294967296 ^ m) : (db 4294967296 V).length ≤ m := db_len (by omega) m V h
theorem sum_lt {x y m : Nat} (hx : x < 4294967296 ^ m) (hy : y < 4294967296 ^ m) : x + y < 4294967296 ^ (m + 1) := by
  rw [Nat.pow_succ]
  omega
theorem db_pos_len {b V : Nat} (hb : 2 ≤ b) : 0 < (db b V).length ↔ 0 < V := by
  rw [List.length_pos_iff, ne_eq, db_nil hb]
  omega
end Go.Nt
