/-
  nat's Shl and Len with a row or nothing, told by its place alone (letters), the number told ahead.
-/
import Derived.Test.YtecemjilmlagdaaDoorG16
import Derived.Test.YtecemjilmlagdaaDoorG37
import Derived.Test.YtecemjilmlagdaaDoorG08
import Derived.Test.YtecemjilmlagdaaDoorG21
import Derived.SizedLaws
import Derived.Test.YtecemjilmlagdaaDoorG18
import Derived.Test.YtecemjilmlagdaaDoorG23
namespace Go.Proofs.YtecemjilmlagdaaDoor
open Go.KRun Go.Nt
set_option maxRecDepth 100000
set_option linter.unusedVariables false

def sM (n : Nat) (k : Int) : Nat := k.toNat / 32 + (n + 1)
def gShlT : AnsH := fun vals h s =>
  match vals, s with
  | [.slice p n c, .int .i64 k], .inr (.inr (.inr (.inl true))) :: s' => some (.tuple #[nilS, errV 1], h, s', [(rowX h p n c, true), (badL (rowOf h p n) || decide (k < 0), true)])
  | [.slice p n c, .int .i64 k], .inr (.inr (.inr (.inl false))) :: .inr (.inr (.inr (.inl true))) :: s' => some (.tuple #[nilS, .nilIface], h, s', [(rowX h p n c, true), (badL (rowOf h p n) || decide (k < 0), false), (decide (n = 0), true)])
  | [.slice p n c, .int .i64 k], .inr (.inr (.inr (.inl false))) :: .inr (.inr (.inr (.inl false))) :: .inr (.inr (.inr (.inl true))) :: s' => some (.tuple #[nilS, errV 2], h, s', [(rowX h p n c, true), (badL (rowOf h p n) || decide (k < 0), false), (decide (n = 0), false), (decide (k > 262144 - lenN (rowOf h p n)), true)])
  | [.slice p n c, .int .i64 k], .inr (.inr (.inr (.inl false))) :: .inr (.inr (.inr (.inl false))) :: .inr (.inr (.inr (.inl false))) :: .inr (.inl V) :: s' => some (.tuple #[sl h.n 0 (trimN (dg (sM n k) V)) (sM n k), .nilIface], h.push (wU (dg (sM n k) V)) tU, s', [(decide (shlR (rowOf h p n) k.toNat = dg (sM n k) V), true), (rowX h p n c, true), (badL (rowOf h p n) || decide (k < 0), false), (decide (n = 0), false), (decide (k > 262144 - lenN (rowOf h p n)), false)])
  | _, _ => none
theorem gShlT_ok : AnsHOk 27 gShlT := by
  intro vals h s v h' s' lg hg hl m B w E hv
  unfold gShlT at hg
  split at hg
  · rename_i p n c k s2
    cases hg
    have l1 := hl _ (List.mem_cons_self)
    have l2 := hl _ (List.mem_cons_of_mem _ (List.mem_singleton.2 rfl))
    simp only at l1 l2
    rcases rowX_cases l1 with ⟨rfl, rfl, rfl, e0⟩ | ⟨b, o, x, rfl, hx, r1, e0⟩ <;> rw [e0] at l2
    · rw [badL_nil, Bool.false_or] at l2
      exact gShlX_ok _ h [cmp true] _ _ [] [(decide (k < 0), true)] rfl (okL1 l2) m B w E hv
    · exact gShlX_ok _ h [cmp true] _ _ [] [(rowOk x.2 x.1 o n c, true), (badL (cutI x.1 o n) || decide (k < 0), true)] (by simp only [gShlX, gShl, hx]) (okCons r1 (okL1 l2)) m B w E hv
  · rename_i p n c k s2
    cases hg
    have l1 := hl _ (List.mem_cons_self)
    have l2 := hl _ (List.mem_cons_of_mem _ List.mem_cons_self)
    have l3 := hl _ (List.mem_cons_of_mem _ (List.mem_cons_of_mem _ (List.mem_singleton.2 rfl)))
    simp only at l1 l2 l3
    rcases rowX_cases l1 with ⟨rfl, rfl, rfl, e0⟩ | ⟨b, o, x, rfl, hx, r1, e0⟩ <;> rw [e0] at l2
    · rw [badL_nil, Bool.false_or] at l2
      exact gShlX_ok _ h [cmp false] _ _ [] [(decide (k < 0), false)] rfl (okL1 l2) m B w E hv
    · exact gShlX_ok _ h [cmp false, cmp true] _ _ [] [(rowOk x.2 x.1 o n c, true), (badL (cutI x.1 o n) || decide (k < 0), false), (decide (n = 0), true)] (by simp only [gShlX, gShl, hx]) (okCons r1 (okCons l2 (okL1 l3))) m B w E hv
  · rename_i p n c k s2
    cases hg
    have l1 := hl _ (List.mem_cons_self)
    have l2 := hl _ (List.mem_cons_of_mem _ List.mem_cons_self)
    have l3 := hl _ (List.mem_cons_of_mem _ (List.mem_cons_of_mem _ List.mem_cons_self))
    have l4 := hl _ (List.mem_cons_of_mem _ (List.mem_cons_of_mem _ (List.mem_cons_of_mem _ (List.mem_singleton.2 rfl))))
    simp only at l1 l2 l3 l4
    rcases rowX_cases l1 with ⟨rfl, rfl, rfl, e0⟩ | ⟨b, o, x, rfl, hx, r1, e0⟩
    · exact absurd rfl (of_decide_eq_false l3)
    · rw [e0] at l2 l4
      exact gShlX_ok _ h [cmp false, cmp false, cmp true] _ _ [] [(rowOk x.2 x.1 o n c, true), (badL (cutI x.1 o n) || decide (k < 0), false), (decide (n = 0), false), (decide (k > 262144 - lenN (cutI x.1 o n)), true)] (by simp only [gShlX, gShl, hx]) (okCons r1 (okCons l2 (okCons l3 (okL1 l4)))) m B w E hv
  · rename_i p n c k V s2
    cases hg
    have l0 := of_decide_eq_true (hl _ (List.mem_cons_self))
    have l1 := hl _ (List.mem_cons_of_mem _ List.mem_cons_self)
    have l2 := hl _ (List.mem_cons_of_mem _ (List.mem_cons_of_mem _ List.mem_cons_self))
    have l3 := hl _ (List.mem_cons_of_mem _ (List.mem_cons_of_mem _ (List.mem_cons_of_mem _ List.mem_cons_self)))
    have l4 := hl _ (List.mem_cons_of_mem _ (List.mem_cons_of_mem _ (List.mem_cons_of_mem _ (List.mem_cons_of_mem _ (List.mem_singleton.2 rfl)))))
    simp only at l1 l2 l3 l4
    rcases rowX_cases l1 with ⟨rfl, rfl, rfl, e0⟩ | ⟨b, o, x, rfl, hx, r1, e0⟩
    · exact absurd rfl (of_decide_eq_false l3)
    · rw [e0] at l0 l2 l4
      rw [← l0]
      exact gShlX_ok _ h [cmp false, cmp false, cmp false] _ _ [] [(rowOk x.2 x.1 o n c, true), (badL (cutI x.1 o n) || decide (k < 0), false), (decide (n = 0), false), (decide (k > 262144 - lenN (cutI x.1 o n)), false)] (by simp only [gShlX, gShl, hx]; rfl) (okCons r1 (okCons l2 (okCons l3 (okL1 l4)))) m B w E hv
  · cases hg
def gLenT : AnsH := fun vals h s =>
  match vals, s with
  | [.slice p n c], .inr (.inl l) :: s' => some (i6' l, h, s', [(decide (lenN (rowOf h p n) = l), true), (rowX h p n c, true)])
  | _, _ => none
theorem gLenT_ok : AnsHOk 28 gLenT := by
  intro vals h s v h' s' lg hg hl m B w E hv
  unfold gLenT at hg
  split at hg
  · rename_i p n c l s2
    cases hg
    have l0 := of_decide_eq_true (hl _ (List.mem_cons_self))
    have l1 := hl _ (List.mem_cons_of_mem _ (List.mem_singleton.2 rfl))
    simp only at l1
    rcases rowX_cases l1 with ⟨rfl, rfl, rfl, e0⟩ | ⟨b, o, x, rfl, hx, r1, e0⟩ <;> rw [e0] at l0 <;> rw [← l0]
    · exact gLen_ok _ h [] _ _ [] [] rfl (fun x hx => by cases hx) m B w E hv
    · exact gLen_ok _ h [] _ _ [] [(rowOk x.2 x.1 o n c, true)] (by simp only [gLen, hx]) (okL1 r1) m B w E hv
  · cases hg
end Go.Proofs.YtecemjilmlagdaaDoor

/-
  The row's side of a law whose arguments are rows of words of 32 bits: an argument opened into the small memory's terms, and shut.
-/
namespace Go.Proofs.YtecemjilmlagdaaDoor
open Go.KRun Go.Nt Go.ChangeShapes Go.WideShapes Go.ChangeAt Go.RowKit
set_option maxRecDepth 100000
set_option linter.unusedVariables false

theorem sl_ty : Tryd.prog.underlying 22 = some (.slice 44) := by kernel_rfl
theorem sl_el : Tryd.prog.underlying 44 = some (.int .u32) := by kernel_rfl
theorem sl_ce : Tryd.prog.cellsOf 44 = 1 := by kernel_rfl
theorem sl_by : Tryd.prog.bytesOf 44 = 4 := by kernel_rfl
variable {H : Type} {enc : TypeId × Value → H}
theorem shut_rowS {w w' : World} {b off len : Nat} {cs : Array Value} {zs : List Int} (hL : Lain w b off cs zs) (hle : len ≤ zs.length) (hm : zs.length ≤ maxLen) (hb : w'.heap[b]? = w.heap[b]?) (sp : Nat → Bool) (hsp : ∀ p ∈ MemPlace.row ⟨b, off, none⟩ zs.length, sp p.block = true) :
    DataW.Trod enc Tryd.prog w' 0 sp true 22 (.slice (some ⟨b, off, none⟩) len zs.length) (.slice (lits .u32 (zs.take len)) (lits .u32 (zs.drop len))) (MemPlace.row ⟨b, off, none⟩ zs.length) := by
  refine ⟨2, ?_⟩
  have := shut_ints' (enc := enc) (P := Tryd.prog) (w := w') (base := 0) (spare := sp) (held := true) (b := b) (off := off) (len := len) (cap := zs.length) (zs := zs) 0 sl_ty sl_el sl_ce (Nat.zero_le _) hle hm (by
    rcases Nat.eq_zero_or_pos zs.length with h0 | h0
    · have : len = 0 := by omega
      rw [h0, this]
      simp
    · have := hsp (.cell b (off + 0)) (MemPlace.mem_row.2 ⟨0, h0, rfl⟩)
      have e : sp b = true := this
      rw [e]
      simp) (fun i hi => by
    obtain ⟨ty, z, hh⟩ := hL.heap
    unfold World.cell?
    rw [hb, hh]
    simpa using hL.cell i hi) hL.wf
  simpa [Value.cells] using this
/-- one argument -/
theorem arg_of {w : World} {base : Nat} {r : Go.Reach} {v : Value} {d : DataW H} {p : List MemPlace} (i : Nat) (hval : Value.okWide Tryd.prog w r base 22 v) (h : DataW.Trod enc Tryd.prog w 0 (fun _ => true) true 22 v d p) (hsz : ∀ x y, d = .slice x y → (x.length + y.length) * Tryd.prog.bytesOf 44 ≤ reachBytes) :
    (∃ x k q n c L, Arg w i v x k q n c L) ∧ ∀ w' sp, Tidy w w' → (∀ y ∈ p, sp y.block = true) → DataW.Trod enc Tryd.prog w' 0 sp true 22 v d p := by
  rcases open_row sl_ty sl_el sl_ce hval h with ⟨rfl, rfl, rfl⟩ | ⟨b, off, len, cs, zs, rfl, hle, hL, rfl, rfl, hm⟩
  · refine ⟨⟨_, (0, 0), _, _, _, _, .inl ⟨rfl, rfl, rfl, rfl, rfl, rfl⟩⟩, fun w' sp _ _ => ?_⟩
    exact ⟨2, by simp [Value.cells, DataW.trod]⟩
  · have hs := hsz _ _ rfl
    rw [sl_by] at hs
    simp only [lits, List.length_map, List.length_take, List.length_drop, reachBytes] at hs
    refine ⟨⟨_, _, _, _, _, _, .inr ⟨b, off, cs, zs, rfl, hL, rfl, hle, by omega, rfl, rfl, rfl, rfl⟩⟩, fun w' sp ht hp => ?_⟩
    obtain ⟨ty, z, hh⟩ := hL.heap
    exact shut_rowS hL hle hm (ht.1.block _ (Array.getElem?_eq_some_iff.1 hh).1) sp hp
end Go.Proofs.YtecemjilmlagdaaDoor

/-
  nat.Pow as a contract; the document's Shl and Len with what is answered told ahead; what is known of calls, for the law NatPowers; where it begins.
-/
namespace Go.Proofs.YtecemjilmlagdaaDoor
open Go.KRun Go.Nt
set_option maxRecDepth 100000
set_option linter.unusedVariables false

theorem np_runs {b n : Nat} (hb : b < 4294967296) (hn : n ≤ 300) : RunsW (tabH Tryd.prog extY conPw hcQ) (seqs (qP Tryd.f26) (.seq (.seq (qI Tryd.f26) (.block 0 (.loop (qL Tryd.f26)))) (qE Tryd.f26))) ([.int .u32 (b : Int), .int .i64 (n : Int)] ++ List.replicate 54 undef, ⟨0, []⟩, []) fun e z => (e = none ∨ e = some none) ∧ ((¬ (b = 0 ∧ 1 ≤ n) ∧ ∃ k, resS Tryd.prog Tryd.f26 z.1 z.2.1 = some (.tuple #[s32 k (pM b n) (b ^ n), .nilIface]) ∧ ∃ r, z.2.1.blk? k = some (wU (dg (pM b n) ((b ^ n : Nat) : Int)) ++ r, tU)) ∨ ((b = 0 ∧ 1 ≤ n) ∧ resS Tryd.prog Tryd.f26 z.1 z.2.1 = some (.tuple #[nilS, .nilIface]))) := by
  have eb : IntKind.u64.wrap (b : Int) = (b : Int) := by simp [IntKind.wrap, IntKind.bits, IntKind.signed]; omega
  have en : IntKind.u64.wrap (n : Int) = (n : Int) := by simp [IntKind.wrap, IntKind.bits, IntKind.signed]; omega
  have hp := np_pre b n
  rw [eb] at hp
  have hi := np_i b n
  rw [en, Int.toNat_natCast] at hi
  have hl9 : bitLen n ≤ 9 := by
    obtain ⟨s1, s2⟩ := bitLen_spec n
    rcases Nat.lt_or_ge 9 (bitLen n) with h | h
    · have h0 : n ≠ 0 := by rintro rfl; simp [bitLen] at h
      have h1 := s2 h0
      have h2 : 2 ^ 9 ≤ 2 ^ (bitLen n - 1) := Nat.pow_le_pow_right (by omega) (by omega)
      have h3 : (2 : Nat) ^ 9 = 512 := rfl
      omega
    · exact h
  have hz : n / 2 ^ bitLen n = 0 := Nat.div_eq_of_lt (bitLen_spec n).1
  have ew : IntKind.i64.wrap (((bitLen n : Nat) : Int) - 1) = ((bitLen n : Nat) : Int) - 1 := wrapI (by omega) (by omega)
  rw [ew] at hi
  refine goesT_listW tabQ hp (okCons (decide_eq_true ⟨by omega, by omega⟩) (okCons (by decide) (okCons (decide_eq_false (by omega)) (okL1 (decide_eq_false (by omega)))))) fun g => ?_
  refine RunsW.seq (P1 := fun e y => e = none ∧ nS b n 0 y) ?_ ?_ (fun e y hy => by cases hy.1)
  · refine RunsW.seq (goesT_runsW tabQ (hi (s32 1 2 b) g (Q2 b)) (okL1 (decide_eq_true ⟨by omega, by omega⟩))) ?_ (fun e y hy => by cases hy.1)
    rintro ⟨t, h', s⟩ ⟨_, ⟨g', ht⟩, hh⟩
    simp only at ht hh
    subst ht hh
    have lp := RunsW.forLoop (T := tabH Tryd.prog extY conPw hcQ) (c := qL Tryd.f26) (id := 0) (P := nS b n 0) (R := fun _ => False) (fun k y => k ≤ bitLen n ∧ nS b n k y) (x := (qF b n (s32 0 2 1) (s32 1 2 b) (((bitLen n : Nat) : Int) - 1) ++ tl 46 g', Q2 b, s)) ?_ (n := bitLen n) ⟨Nat.le_refl _, g', .inl ⟨hz, rfl, rfl⟩⟩
    · refine lp.mono fun e z hz => ?_
      match e, hz with
      | none, hz => exact ⟨rfl, hz⟩
      | some none, hz => exact hz.elim
      | some (some _), hz => exact hz.elim
    · rintro k y ⟨hk, hy⟩
      match k, hk, hy with
      | k + 1, hk, hy =>
        refine (np_round hb hn (by omega) hy fun h0 => ?_).mono fun e z hz => ?_
        · obtain ⟨s1, s2⟩ := bitLen_spec n
          have hn0 : n ≠ 0 := by
            rintro rfl
            simp [bitLen] at hk
          have h1 := s2 hn0
          have h2 : bitLen n = k + 1 := by
            rcases Nat.lt_or_ge (k + 1) (bitLen n) with h | h
            · exfalso
              have h3 : 2 ^ (k + 1) ≤ 2 ^ (bitLen n - 1) := Nat.pow_le_pow_right (by omega) (by omega)
              have h4 : 0 < n / 2 ^ (k + 1) := Nat.div_pos (by omega) (Nat.pow_pos (by omega))
              omega
            · omega
          rw [h2, Nat.add_sub_cancel] at h1
          have h5 : 0 < n / 2 ^ k := Nat.div_pos h1 (Nat.pow_pos (by omega))
          have h6 : n / 2 ^ (k + 1) = n / 2 ^ k / 2 := by rw [Nat.pow_succ, ← Nat.div_div_eq_div_mul]
          omega
        · obtain ⟨rfl, hz⟩ := hz
          exact ⟨k, by omega, by omega, hz⟩
      | 0, _, hy =>
        obtain ⟨t, h', s⟩ := y
        have out : ∀ (P : Value) (h : Hp) (g : Nat → Value) (s : List Dec), RunsW (tabH Tryd.prog extY conPw hcQ) (qL Tryd.f26) (qF b n P (s32 1 2 b) (((0 : Nat) : Int) - 1) ++ tl 46 g, h, s) fun e z => e = some (some 0) ∧ (∃ g, z.1 = qF b n P (s32 1 2 b) (((0 : Nat) : Int) - 1) ++ tl 46 g) ∧ z.2.1 = h := fun P h g s =>
          goesT_runsW tabQ (np_x n (((0 : Nat) : Int) - 1) b P (s32 1 2 b) h g) (okL1 (by decide))
        obtain ⟨g, hy⟩ := hy
        rcases hy with ⟨j0, ht, hh⟩ | ⟨j1, b0, ht, hh⟩ | ⟨j1, b0, m, V, ht, hh⟩ <;> simp only at ht hh <;> subst ht hh
        · refine (out _ _ g s).mono fun e z hz => ?_
          obtain ⟨rfl, ⟨g', e1⟩, e2⟩ := hz
          exact ⟨rfl, g', .inl ⟨j0, e1, e2⟩⟩
        · refine (out _ _ g s).mono fun e z hz => ?_
          obtain ⟨rfl, ⟨g', e1⟩, e2⟩ := hz
          exact ⟨rfl, g', .inr (.inl ⟨j1, b0, e1, e2⟩)⟩
        · refine (out _ _ g s).mono fun e z hz => ?_
          obtain ⟨rfl, ⟨g', e1⟩, e2⟩ := hz
          exact ⟨rfl, g', .inr (.inr ⟨j1, b0, m, V, e1, e2⟩)⟩
  · rintro ⟨t, h', s⟩ ⟨_, g, hy⟩
    rw [Nat.pow_zero, Nat.div_one] at hy
    rcases hy with ⟨j0, ht, hh⟩ | ⟨j1, b0, ht, hh⟩ | ⟨j1, b0, m, V, ht, hh⟩ <;> simp only at ht hh <;> subst ht hh
    · refine (goesT_runsW tabQ (np_e n _ b _ _ _ g) (fun x hx => by cases hx)).mono fun e z hz => ?_
      obtain ⟨rfl, ⟨g', e1⟩, e2⟩ := hz
      subst j0
      have e3 : pM b 0 = 2 := rfl
      rw [e3, Nat.pow_zero]
      exact ⟨.inr rfl, .inl ⟨by omega, 0, by rw [e1, e2]; rfl, [], by rw [e2, List.append_nil]; rfl⟩⟩
    · refine (goesT_runsW tabQ (np_e n _ b _ _ _ g) (fun x hx => by cases hx)).mono fun e z hz => ?_
      obtain ⟨rfl, ⟨g', e1⟩, e2⟩ := hz
      exact ⟨.inr rfl, .inl ⟨by omega, 2, by rw [e1, e2]; rfl, [], by rw [e2, List.append_nil]; rfl⟩⟩
    · refine (goesT_runsW tabQ (np_e n _ b _ _ _ g) (fun x hx => by cases hx)).mono fun e z hz => ?_
      obtain ⟨rfl, ⟨g', e1⟩, e2⟩ := hz
      exact ⟨.inr rfl, .inr ⟨⟨b0, j1⟩, by rw [e1, e2]; rfl⟩⟩
def pMi (b n : Int) : Nat := pM b.toNat n.toNat
/-- the power, told ahead -/
def gPowN : AnsH := fun vals h s =>
  match vals, s with
  | [.int .u32 b, .int .i64 n], .inr (.inr (.inr (.inl true))) :: s' => some (.tuple #[nilS, errV 1], h, s', [(decide (n < 0 ∨ n > 1000000), true)])
  | [.int .u32 b, .int .i64 n], .inr (.inr (.inr (.inl false))) :: .inr (.inr (.inr (.inl true))) :: s' => some (.tuple #[nilS, .nilIface], h, s', [(okPw b n, true), (decide (b = 0 ∧ 1 ≤ n), true)])
  | [.int .u32 b, .int .i64 n], .inr (.inr (.inr (.inl false))) :: .inr (.inr (.inr (.inl false))) :: .inr (.inl V) :: s' => some (.tuple #[sl h.n 0 (trimN (dg (pMi b n) V)) (pMi b n), .nilIface], h.push (wU (dg (pMi b n) V)) tU, s', [(decide (((b.toNat ^ n.toNat : Nat) : Int) = V), true), (okPw b n, true), (decide (b = 0 ∧ 1 ≤ n), false)])
  | _, _ => none
theorem gPowN_ok : AnsHOk 26 gPowN := by
  intro vals h s v h' s' lg hg hl m B w E hv
  have hr0 : (⟨0, []⟩ : Hp).rows := ⟨rfl, fun b x hx => by have : b < 0 := Hp.blk_lt hx; omega⟩
  unfold gPowN at hg
  split at hg
  · rename_i b n s2
    cases hg
    have l1 := of_decide_eq_true (hl _ (List.mem_singleton.2 rfl))
    have r : RunsW (tabH Tryd.prog extY conPw hcQ) (cBody Tryd.f26) ([.int .u32 b, .int .i64 n] ++ List.replicate 54 undef, ⟨0, []⟩, []) fun e z => (e = none ∨ e = some none) ∧ resS Tryd.prog Tryd.f26 z.1 z.2.1 = some (.tuple #[nilS, errV 1]) := by
      by_cases h0 : n < 0
      · refine (goesT_runsW tabQ (np_bad0 b n) (okL1 (decide_eq_true h0))).mono fun e z hz => ?_
        obtain ⟨rfl, ⟨g', e1⟩, e2⟩ := hz
        exact ⟨.inr rfl, by rw [e1, e2]; rfl⟩
      · refine (goesT_runsW tabQ (np_bad1 b n) (okCons (decide_eq_true (l1.resolve_left h0)) (okL1 (decide_eq_false h0)))).mono fun e z hz => ?_
        obtain ⟨rfl, ⟨g', e1⟩, e2⟩ := hz
        exact ⟨.inr rfl, by rw [e1, e2]; rfl⟩
    have := row_calls0 (T := tabH Tryd.prog extY conPw hcQ) Tryd.func26 np_body1 hr0 (vals := [.int .u32 b, .int .i64 n]) (fun v hv => by
      simp only [List.mem_cons, List.not_mem_nil, or_false] at hv
      rcases hv with rfl | rfl <;> rfl) (v := .tuple #[nilS, errV 1]) (by rfl) r E (s := fun i => i) (fun i x hx _ => by have : i < 0 := Hp.blk_lt hx; omega)
    exact this
  · rename_i b n s2
    cases hg
    have l2 := of_decide_eq_true (hl _ List.mem_cons_self)
    have l3 := of_decide_eq_true (hl _ (List.mem_cons_of_mem _ (List.mem_singleton.2 rfl)))
    obtain ⟨b', rfl⟩ := Int.eq_ofNat_of_zero_le l2.1
    obtain ⟨n', rfl⟩ := Int.eq_ofNat_of_zero_le l2.2.2.1
    have r := (np_runs (b := b') (n := n') (by omega) (by omega)).mono (P' := fun e z => (e = none ∨ e = some none) ∧ resS Tryd.prog Tryd.f26 z.1 z.2.1 = some (.tuple #[nilS, .nilIface])) fun e z hz => ⟨hz.1, by
      rcases hz.2 with ⟨q, _⟩ | ⟨_, q⟩
      · exact absurd (show b' = 0 ∧ 1 ≤ n' by omega) q
      · exact q⟩
    have := row_calls0 (T := tabH Tryd.prog extY conPw hcQ) Tryd.func26 np_body hr0 (vals := [.int .u32 (b' : Int), .int .i64 (n' : Int)]) (fun v hv => by
      simp only [List.mem_cons, List.not_mem_nil, or_false] at hv
      rcases hv with rfl | rfl <;> rfl) (v := .tuple #[nilS, .nilIface]) (by rfl) r E (s := fun i => i) (fun i x hx _ => by have : i < 0 := Hp.blk_lt hx; omega)
    exact this
  · rename_i b n V s2
    cases hg
    have l1 := of_decide_eq_true (hl _ List.mem_cons_self)
    have l2 := of_decide_eq_true (hl _ (List.mem_cons_of_mem _ List.mem_cons_self))
    have l3 := of_decide_eq_false (hl _ (List.mem_cons_of_mem _ (List.mem_cons_of_mem _ (List.mem_singleton.2 rfl))))
    obtain ⟨b', rfl⟩ := Int.eq_ofNat_of_zero_le l2.1
    obtain ⟨n', rfl⟩ := Int.eq_ofNat_of_zero_le l2.2.2.1
    rw [Int.toNat_natCast, Int.toNat_natCast] at l1
    rw [← l1]
    have ep : pMi (b' : Int) (n' : Int) = pM b' n' := by unfold pMi; rw [Int.toNat_natCast, Int.toNat_natCast]
    rw [ep]
    have r := (np_runs (b := b') (n := n') (by omega) (by omega)).mono (P' := fun e z => (e = none ∨ e = some none) ∧ ∃ k, resS Tryd.prog Tryd.f26 z.1 z.2.1 = some (.tuple #[s32 k (pM b' n') (b' ^ n'), .nilIface]) ∧ ∃ r, z.2.1.blk? k = some (wU (dg (pM b' n') ((b' ^ n' : Nat) : Int)) ++ r, tU)) fun e z hz => ⟨hz.1, by
      rcases hz.2 with ⟨_, q⟩ | ⟨q, _⟩
      · exact q
      · exact absurd q (by omega)⟩
    exact row_calls2 (T := tabH Tryd.prog extY conPw hcQ) Tryd.func26 np_body hr0 (vals := [.int .u32 (b' : Int), .int .i64 (n' : Int)]) (fun v hv => by
      simp only [List.mem_cons, List.not_mem_nil, or_false] at hv
      rcases hv with rfl | rfl <;> rfl) (v := fun k => .tuple #[s32 k (pM b' n') (b' ^ n'), .nilIface]) (wU_lt _) (by kernel_rfl) r (fun k => by simp [oc, oc2, oc1, s32, sl]) E (s := fun i => i) (fun i x hx _ => by have : i < 0 := Hp.blk_lt hx; omega) (fun k => by simp [rn, rn2, rn1, s32, sl])
  · cases hg
def okShP (h : Hp) (p : Option Addr) (n c : Nat) (k : Int) : Bool := rowP h p n c && dgB (rowOf h p n) && Nat.blt (k.toNat / 16 + n + 3) 1073741824 && decide (0 ≤ k)
def gUshlP : AnsH := fun vals h s =>
  match vals, s with
  | [.slice p n c, .int .i64 k], .inr (.inr (.inr (.inl d))) :: s' =>
    match d, s' with
    | true, .inr (.inl V) :: s2 => mk16 V.toNat h s2 [(decide (vO h p n * 2 ^ k.toNat = V.toNat), true), (okShP h p n c k, true), (decide (0 < n), true)]
    | false, _ => some (nilS, h, s', [(rowP h p n c, true), (decide (0 < n), false)])
    | _, _ => none
  | _, _ => none
theorem gUshlP_ok : AnsHOk 31 gUshlP := by
  intro vals h s v h' s' lg hg hl
  unfold gUshlP at hg
  split at hg
  · rename_i p n c k d s2
    split at hg
    · rename_i V s3
      unfold mk16 at hg
      cases hg
      obtain ⟨l1, l2⟩ := log_tlP hl
      have l1 := of_decide_eq_true l1
      refine gUshl_ok _ h [cmp true] _ _ [] _ ?_ l2
      simp only [gUshl, mk16, l1]
      rfl
    · cases hg
      exact gUshl_ok _ h [cmp false] _ _ [] _ rfl hl
    · cases hg
  · cases hg
def okLnP (h : Hp) (p : Option Addr) (n c : Nat) : Bool := rowP h p n c && canB (rowOf h p n) && Nat.blt n 1073741824
def gUlenP : AnsH := fun vals h s =>
  match vals, s with
  | [.slice p n c], .inr (.inl l) :: s' => some (.int .i64 l, h, s', [(decide (((bl (vO h p n) : Nat) : Int) = l), true), (okLnP h p n c, true)])
  | _, _ => none
theorem gUlenP_ok : AnsHOk 29 gUlenP := by
  intro vals h s v h' s' lg hg hl
  unfold gUlenP at hg
  split at hg
  · rename_i p n c l s2
    cases hg
    obtain ⟨l1, l2⟩ := log_tlP hl
    have l1 := of_decide_eq_true l1
    refine gUlen_ok _ h [] _ _ [] _ ?_ l2
    simp only [gUlen, l1]
    rfl
  · cases hg
def hcN6 : Hc := altH 26 gPowN (altH 30 gUpow (altH 27 gShlT (altH 28 gLenT (altH 31 gUshlP (altH 29 gUlenP hcN2)))))
theorem hcN6_ok : HcOk hcN6 := altH_ok Tryd.func26 rfl gPowN_ok (altH_ok Tryd.func30 rfl gUpow_ok (altH_ok Tryd.func27 rfl gShlT_ok (altH_ok Tryd.func28 rfl gLenT_ok (altH_ok Tryd.func31 rfl gUshlP_ok (altH_ok Tryd.func29 rfl gUlenP_ok hcN2_ok)))))
theorem tabN6 : TabOk (tabH Tryd.prog extY conLw hcN6) := tabH_ok conLw_ok hcN6_ok
/-- a call that begins with two numbers and a row -/
theorem one_calls {T : Tab} (hT : TabOk T) {w : World} (hk : known w) {va : Value} {xa : List Value × TypeId} {ka : Nat × Nat} {pa : Option Addr} {na ca : Nat} {LA : List Int} (Ha : Arg w 1 va xa ka pa na ca LA) {b n : Int} {N f : Nat} {s : List Dec} {v : Value} {cs : Log}
    (hF : Fits (reckonAt T (hS xa ([], 2 * dead)) N f [.int .u32 b, .int .i64 n, .slice pa na ca] s) v cs) (hcs : okLog cs) (hv : KRun.lt 0 v = true) : Calls T.P f #[.int .u32 b, .int .i64 n, va] w fun e w' => e = .returned v ∧ Tidy w w' := by
  have Hb : Arg w 2 (.slice none 0 0) ([], 2 * dead) (0, 0) none 0 0 [] := .inl ⟨rfl, rfl, rfl, rfl, rfl, rfl⟩
  have := fitsAt_calls hT hF hcs (List.all_eq_true.2 fun u hu => by
    simp only [List.mem_cons, List.not_mem_nil, or_false] at hu
    rcases hu with rfl | rfl | rfl
    · rfl
    · rfl
    · exact Ha.lt (by omega)) hv (startS hk Ha Hb)
  rw [List.map_cons, List.map_cons, List.map_cons, List.map_nil, Ha.val (by simp [m3])] at this
  exact this
end Go.Proofs.YtecemjilmlagdaaDoor
